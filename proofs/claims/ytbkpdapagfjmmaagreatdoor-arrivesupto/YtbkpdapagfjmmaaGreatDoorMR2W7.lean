import Derived.Test.YtbkpdapagfjmmaaGreatDoorMFAO1
import Derived.Test.YtbkpdapagfjmmaaGreatDoorMSpec17W1
import Derived.Test.YtbkpdapagfjmmaaGreatDoorMPUT7
import Derived.Test.YtbkpdapagfjmmaaGreatDoorMPGW3
import Derived.Test.YtbkpdapagfjmmaaGreatDoorProg
/-
  Walks: the cursor: one byte, so many bytes; the reader: what lacks, what it keeps.
-/
namespace Go.Proofs.YtbkpdapagfjmmaaGreatDoor
open Go.RowKit

theorem take_no (b : Nat) (T : TypeId) (s : ByteArray) (p n : Nat) (more : List Value) (w : World) (hs : s.size ≤ maxLen) (hp : p ≤ s.size) (hn : s.size < p + n) (hI : Is w b T (.string s :: .int .i64 p :: more)) :
    Calls Tryz.prog 137 #[.pointer (some ⟨b, 0, none⟩), .int .i64 n] w fun e w' => e = .returned (.tuple #[.string ⟨#[]⟩, .bool false]) ∧ Is w' b T (.string s :: .int .i64 (s.size : Int) :: more) ∧ Turns b w w' := by
  unfold maxLen at hs
  have c0 : w.cell? ⟨b, 0, none⟩ = some (.string s) := hI.cell 0
  have c1 : w.cell? ⟨b, 1, none⟩ = some (.int .i64 p) := hI.cell 1
  have f1 : w.frozen? ⟨b, 1, none⟩ = false := hI.free 1
  have hlt : (s.size : Int) - p < n := by omega
  go_enter Tryz.func137, Tryz.ntmps137
  go_wp2_with fail
  go_quiet (fail)
  go_wp2_with fail
  go_ret2
  exact ⟨rfl, (hI.drewN _).set 1 _, ((Turns.refl _ _).drewN _).set 1 _⟩

theorem take_yes (b : Nat) (T : TypeId) (s : ByteArray) (p n : Nat) (more : List Value) (w : World) (hs : s.size ≤ maxLen) (hn : p + n ≤ s.size) (hI : Is w b T (.string s :: .int .i64 p :: more)) :
    Calls Tryz.prog 137 #[.pointer (some ⟨b, 0, none⟩), .int .i64 n] w fun e w' => e = .returned (.tuple #[.string (s.extract p (p + n)), .bool true]) ∧ Is w' b T (.string s :: .int .i64 ((p + n : Nat) : Int) :: more) ∧ Turns b w w' := by
  unfold maxLen at hs
  have c0 : w.cell? ⟨b, 0, none⟩ = some (.string s) := hI.cell 0
  have c1 : w.cell? ⟨b, 1, none⟩ = some (.int .i64 p) := hI.cell 1
  have f1 : w.frozen? ⟨b, 1, none⟩ = false := hI.free 1
  have hlt : ¬ ((s.size : Int) - p < n) := by omega
  have hn' : (p : Int) + n ≤ s.size := by omega
  go_enter Tryz.func137, Tryz.ntmps137
  go_wp2_with fail
  go_quiet (fail)
  go_wp2_with fail
  go_quiet (fail)
  go_wp2_with fail
  go_ret2
  exact ⟨rfl, (hI.drewN _).set 1 _, ((Turns.refl _ _).drewN _).set 1 _⟩

theorem lack_any (b : Nat) (T : TypeId) (s : ByteArray) (p : Nat) (more : List Value) (w : World) (hs : s.size ≤ maxLen) (hI : Is w b T (.string s :: .int .i64 p :: more)) :
    Calls Tryz.prog 134 #[.pointer (some ⟨b, 0, none⟩)] w fun e w' => e = .returned (.int .i64 (if s.size ≤ p then 0 else 2)) ∧ ∃ n, w' = w.drewN n := by
  have HE := hide (fun w hI => ended_any b T s p more w hs hI)
  by_cases h : s.size ≤ p
  · have hd : decide (s.size ≤ p) = true := by simp; omega
    rw [if_pos h]
    go_enter Tryz.func134, Tryz.ntmps134
    go_wp2_with fail
    refine (unhide HE _ hI).mono ?_
    rintro e w1 ⟨rfl, n1, rfl⟩
    go_wp2_with fail
    go_ret
    exact ⟨rfl, _, rfl⟩
  · have hd : decide (s.size ≤ p) = false := by simp; omega
    rw [if_neg h]
    go_enter Tryz.func134, Tryz.ntmps134
    go_wp2_with fail
    refine (unhide HE _ hI).mono ?_
    rintro e w1 ⟨rfl, n1, rfl⟩
    go_wp2_with fail
    go_ret
    exact ⟨rfl, _, rfl⟩

end Go.Proofs.YtbkpdapagfjmmaaGreatDoor

/-
  Walks: what the reader keeps.
-/
namespace Go.Proofs.YtbkpdapagfjmmaaGreatDoor
open Go.RowKit

theorem Turns.setNew {b : Nat} {w w1 : World} (h : Turns b w w1) {a : Addr} (ha : w.heap.size ≤ a.block) (v : Value) : Turns b w (w1.setCell a v) :=
  ⟨h.os, h.tape, h.output, by simpa using h.size, fun k hk hn => (heap_setCell_other _ _ _ _ (by omega)).trans (h.block k hk hn)⟩

set_option maxHeartbeats 400000 in
theorem keep_ok {T : TypeId} {more : List Value} (b : Nat) (s : ByteArray) (p q : Nat) (f : Int) (w : World) (_hs : s.size ≤ maxLen) (hq : q ≤ s.size) (hr : s.size - q ≤ 1000)
    (hI : Is w b T (.string s :: .int .i64 p :: .int .i64 f :: more)) :
    Calls Tryz.prog 89 #[.pointer (some ⟨b, 0, none⟩), .int .i64 q, .int .i64 0] w fun e w' =>
      e = .returned (.tuple #[]) ∧ Is w' b T (.string (s.extract q s.size) :: .int .i64 0 :: .int .i64 0 :: more) ∧ Turns b w w' := by
  unfold maxLen at _hs
  have HC := hide (fun w => clone_any (s.extract q s.size) w (by rw [ByteArray.size_extract]; omega))
  have c0 : w.cell? ⟨b, 0, none⟩ = some (.string s) := hI.cell 0
  have hq' : (q : Int) ≤ s.size := by omega
  go_enter Tryz.func89, Tryz.ntmps89
  go_wp2_with fail
  refine (unhide HC _).mono ?_
  rintro e w1 ⟨rfl, hb⟩
  have hI1 := hI.below hb hI.lt
  have hT1 := (Turns.refl b w).below hb
  have d0 := hI1.cell 0
  have d1 := hI1.cell 1
  have d2 := hI1.cell 2
  have f0 := hI1.free 0
  have f1 := hI1.free 1
  have f2 := hI1.free 2
  simp only [List.getElem?_cons_zero, List.getElem?_cons_succ] at d0 d1 d2
  clear hb hI c0
  go_wp2_with fail
  go_end0
  exact ⟨rfl, ((hI1.set 0 _).set 1 _).set 2 _, ((hT1.set 0 _).set 1 _).set 2 _⟩

set_option maxHeartbeats 400000 in
theorem keep_bad {T : TypeId} {more : List Value} (b : Nat) (s : ByteArray) (p q : Nat) (f e0 : Int) (w : World) (he : e0 ≠ 0)
    (hI : Is w b T (.string s :: .int .i64 p :: .int .i64 f :: more)) :
    Calls Tryz.prog 89 #[.pointer (some ⟨b, 0, none⟩), .int .i64 q, .int .i64 e0] w fun e w' =>
      e = .returned (.tuple #[]) ∧ Is w' b T (.string ⟨#[]⟩ :: .int .i64 0 :: .int .i64 e0 :: more) ∧ Turns b w w' := by
  have he' : (e0 == 0) = false := by simpa using he
  have d0 := hI.cell 0
  have d1 := hI.cell 1
  have d2 := hI.cell 2
  have f0 := hI.free 0
  have f1 := hI.free 1
  have f2 := hI.free 2
  simp only [List.getElem?_cons_zero, List.getElem?_cons_succ] at d0 d1 d2
  clear he
  go_enter Tryz.func89, Tryz.ntmps89
  go_wp2_with fail
  go_end0
  exact ⟨rfl, ((hI.set 0 _).set 1 _).set 2 _, (((Turns.refl _ _).set 0 _).set 1 _).set 2 _⟩

end Go.Proofs.YtbkpdapagfjmmaaGreatDoor

/-
  Walks: what is asked of a stream, a length, a payload.
-/
namespace Go.Proofs.YtbkpdapagfjmmaaGreatDoor
open Go.RowKit

theorem want_stream (a b x y : Int) (w : World) : (Instr.field 275 (.agg #[.int .i64 a, .int .i64 b, .int .i64 x, .int .i64 y]) 0).run Tryz.prog w = .ok (.agg #[.int .i64 a, .int .i64 b]) w := by kernel_rfl
theorem want_length (a b x y : Int) (w : World) : (Instr.field 275 (.agg #[.int .i64 a, .int .i64 b, .int .i64 x, .int .i64 y]) 1).run Tryz.prog w = .ok (.agg #[.int .i64 x, .int .i64 y]) w := by kernel_rfl

theorem stream_of {k a b x y s : Int} (h : IsWant k a b x y) (h0 : 0 ≤ k) (h7 : k ≤ 7) (hs0 : 0 ≤ s) (hs : s ≤ 268435455) : Lk.streamFits k s = decide (a ≤ s ∧ s ≤ b) := by
  unfold IsWant wantOf at h
  unfold Lk.streamFits
  rcases kinds8 h0 h7 with rfl | rfl | rfl | rfl | rfl | rfl | rfl | rfl <;> simp at h <;> obtain ⟨rfl, rfl, -, -⟩ := h <;> rw [Bool.eq_iff_iff] <;> simp <;> omega

theorem length_of {k a b x y n : Int} (h : IsWant k a b x y) (h0 : 0 ≤ k) (h7 : k ≤ 7) (hs0 : 0 ≤ n) (hs : n ≤ 64) : Lk.lengthFits k n = decide (x ≤ n ∧ n ≤ y) := by
  unfold IsWant wantOf at h
  unfold Lk.lengthFits
  rcases kinds8 h0 h7 with rfl | rfl | rfl | rfl | rfl | rfl | rfl | rfl <;> simp at h <;> obtain ⟨-, -, rfl, rfl⟩ := h <;> rw [Bool.eq_iff_iff] <;> simp <;> omega

set_option maxHeartbeats 400000 in
set_option maxRecDepth 100000 in
theorem askStream_any (k s : Int) (h0 : 0 ≤ k) (h7 : k ≤ 7) (hs0 : 0 ≤ s) (hs : s ≤ 268435455) (w : World) :
    Calls Tryz.prog 135 #[.int .i64 k, .int .i64 s] w fun e w' => e = .returned (.int .i64 (Lk.streamErr k s)) ∧ Below w.heap.size w w' := by
  have f0 := want_stream
  go_enter Tryz.func135, Tryz.ntmps135
  go_wp2_with fail
  refine (wantOf_is k h0 h7 _).mono ?_
  rintro e w1 ⟨a, b, x, y, rfl, H, hb1⟩
  go_wp2_with fail
  refine (holds_any _ _ _ _).mono ?_
  rintro e w2 ⟨rfl, hb2⟩
  have hb := hb1.trans (hb2.mono hb1.size)
  have HS := hide (stream_of H h0 h7 hs0 hs)
  generalize decide (a ≤ s ∧ s ≤ b) = d at *
  cases d
  all_goals
    go_wp2_with fail
    go_ret
    exact ⟨ret_int (by rw [Lk.streamErr, unhide HS]; rfl), hb⟩

set_option maxHeartbeats 400000 in
set_option maxRecDepth 100000 in
theorem askLength_any (k n : Int) (h0 : 0 ≤ k) (h7 : k ≤ 7) (hn0 : 0 ≤ n) (w : World) :
    Calls Tryz.prog 136 #[.int .i64 k, .int .i64 n] w fun e w' => e = .returned (.int .i64 (Lk.lengthErr k n)) ∧ Below w.heap.size w w' := by
  by_cases hn : 64 < n
  · go_enter Tryz.func136, Tryz.ntmps136
    go_wp2_with fail
    go_ret
    exact ⟨ret_int (by rw [Lk.lengthErr, if_pos hn]), Below.refl _ _⟩
  have f0 := want_length
  go_enter Tryz.func136, Tryz.ntmps136
  go_wp2_with fail
  refine (wantOf_is k h0 h7 _).mono ?_
  rintro e w1 ⟨a, b, x, y, rfl, H, hb1⟩
  go_wp2_with fail
  refine (holds_any _ _ _ _).mono ?_
  rintro e w2 ⟨rfl, hb2⟩
  have hb := hb1.trans (hb2.mono hb1.size)
  have HS := hide (length_of H h0 h7 hn0 (by omega))
  generalize decide (x ≤ n ∧ n ≤ y) = d at *
  cases d
  all_goals
    go_wp2_with fail
    go_ret
    exact ⟨ret_int (by rw [Lk.lengthErr, if_neg (by omega), unhide HS]; rfl), hb⟩

end Go.Proofs.YtbkpdapagfjmmaaGreatDoor

/-
  Walks: the document's number.
-/
namespace Go.Proofs.YtbkpdapagfjmmaaGreatDoor
open Go.RowKit

namespace Lk
def Rd.next (i : Nat) : Rd → Int | .ok _ k => ((i + k : Nat) : Int) | _ => 0
def Rd.badAt (i : Nat) : Rd → Int | .bad k => ((i + k : Nat) : Int) | _ => -1
def Rd.isShort : Rd → Bool | .short => true | _ => false
end Lk

/-- In the document's loop: t bytes are taken and make acc; B is what the next one weighs. -/
def RefHalf (s : ByteArray) (i t acc B : Nat) : Prop := B = 128 ^ t ∧ Halfway s i t (i + t) acc

theorem wrap64_byte' (c : UInt8) : wrap64 (c.toNat : Int) = c.toNat := wrap64_small _ (by have := byte_lt c; omega)
theorem tmod_nat (a b : Nat) : ((a : Int).tmod b) = ((a % b : Nat) : Int) := by simp [Int.tmod]

theorem ref_step {s : ByteArray} {i t acc B : Nat} (h : RefHalf s i t acc B) (ht : t < 4) (c : UInt8) :
    wrap64 ((acc : Int) + wrap64 ((wrap64 (c.toNat : Int)).tmod 128 * (B : Int))) = ((acc + c.toNat % 128 * 128 ^ t : Nat) : Int) ∧ wrap64 (128 * (B : Int)) = ((128 ^ (t + 1) : Nat) : Int) := by
  obtain ⟨rfl, h⟩ := h
  have hacc := h.2.2.2.1
  have hc := byte_lt c
  rw [wrap64_byte', show (128 : Int) = ((128 : Nat) : Int) from rfl, tmod_nat]
  have hx : c.toNat % 128 < 128 := by omega
  generalize c.toNat % 128 = x at *
  rcases (by omega : t = 0 ∨ t = 1 ∨ t = 2 ∨ t = 3) with rfl | rfl | rfl | rfl
  all_goals
    have e : ∀ y : Nat, y < 2 ^ 62 → wrap64 (y : Int) = y := wrap64_small
    refine ⟨?_, ?_⟩
    · rw [← Int.natCast_mul, e _ (by omega), ← Int.natCast_add, e _ (by omega)]
    · rw [← Int.natCast_mul, e _ (by omega)]

theorem Halfway.eqShort {s : ByteArray} {p t q acc : Nat} {r : Lk.Rd} (h : Halfway s p t q acc) (hr : Hid (Lk.rd 0 0 (s.data.toList.drop p) = r)) (hlt : ¬ q < s.size) : r = .short := by
  obtain ⟨rfl, h1, h2, h3, h4⟩ := h
  rw [← unhide hr, ← h4, drop_end s _ (by omega), Lk.rd_nil]
theorem Halfway.eqBad {s : ByteArray} {p t q acc : Nat} {r : Lk.Rd} (h : Halfway s p t q acc) (hr : Hid (Lk.rd 0 0 (s.data.toList.drop p) = r)) (hlt : q < s.size) (hb : t = 4 ∨ (0 < t ∧ s[q].toNat = 0)) : r = .bad t := by
  obtain ⟨rfl, h1, h2, h3, h4⟩ := h
  rw [← unhide hr, ← h4, drop_cons s _ hlt, Lk.rd_bad _ _ _ _ (hb.imp id fun ⟨a, b⟩ => ⟨a, byte_zero b⟩)]
theorem Halfway.eqLast {s : ByteArray} {p t q acc : Nat} {r : Lk.Rd} (h : Halfway s p t q acc) (hr : Hid (Lk.rd 0 0 (s.data.toList.drop p) = r)) (hlt : q < s.size) (ht : t < 4) (h0 : ¬ (0 < t ∧ s[q].toNat = 0)) (hc : s[q].toNat ≤ 127) :
    r = .ok (acc + s[q].toNat % 128 * 128 ^ t) (t + 1) := by
  obtain ⟨rfl, h1, h2, h3, h4⟩ := h
  rw [← unhide hr, ← h4, drop_cons s _ hlt, Lk.rd_last _ _ _ _ (by rintro (h | ⟨h, h'⟩) <;> first | omega | exact h0 ⟨h, by rw [h']; rfl⟩) (by omega)]

theorem ret_found {a n b a' n' b' : Int} {x x' : Bool} (h1 : a = a') (h2 : n = n') (h3 : b = b') (h4 : x = x') :
    Ending.returned (.agg #[.int .i64 a, .int .i64 n, .int .i64 b, .bool x]) = .returned (.agg #[.int .i64 a', .int .i64 n', .int .i64 b', .bool x']) := by rw [h1, h2, h3, h4]

set_option maxHeartbeats 1000000 in
set_option maxRecDepth 100000 in
theorem refnumber_any (s : ByteArray) (i : Nat) (w : World) (hs : s.size ≤ 2 ^ 62) (hi : i ≤ s.size) :
    Calls Tryz.prog 84 #[.string s, .int .i64 i] w fun e w' =>
      e = .returned (.agg #[.int .i64 (Lk.rd 0 0 (s.data.toList.drop i)).val, .int .i64 ((Lk.rd 0 0 (s.data.toList.drop i)).next i), .int .i64 ((Lk.rd 0 0 (s.data.toList.drop i)).badAt i), .bool (Lk.rd 0 0 (s.data.toList.drop i)).isShort])
      ∧ Below w.heap.size w w' := by
  generalize hr : Lk.rd 0 0 (s.data.toList.drop i) = r
  have HR := hide hr
  clear hr
  go_enter Tryz.func84, Tryz.ntmps84
  go_wp2
  go_loopw [5, 6, 7] (fun n by_ k wr => ∃ t acc B : Nat, k = .int .i64 t ∧ n = .int .i64 acc ∧ by_ = .int .i64 B ∧ RefHalf s i t acc B ∧ wr = w.alloc (.cells #[.int .i64 0, .int .i64 0, .int .i64 0, .bool false] 187)) (fun _ _ k _ => 5 - (intOf k).toNat)
  case atStart => exact ⟨0, 0, 1, rfl, rfl, rfl, ⟨rfl, Halfway.start s i hi⟩, rfl⟩
  case round =>
    obtain ⟨t, acc, B, rfl, rfl, rfl, HH, rfl⟩ := hrel
    have ht : t ≤ 4 := HH.2.2.1
    have hti : i + t ≤ s.size := HH.2.2.2.1
    by_cases hlt : i + t < s.size
    · have hlt' : (i : Int) + t < s.size := by omega
      have hw := wrap64_byte' s[i + t]
      have HW := hide hw
      clear hw
      go_wp2
      · have h3 : (t : Int) = 4 := by assumption
        have e := HH.2.eqBad HR hlt (Or.inl (by omega))
        subst e
        exact bodyPost_ret (v := .agg #[.int .i64 0, .int .i64 0, .int .i64 ((i : Int) + 4), .bool false]) (by simp [results, Tryz.results84, go_sem]) rfl ⟨ret_found rfl rfl (by simp [Lk.Rd.badAt]; omega) rfl, (Below.refl _ _).alloc (Nat.le_refl _) _⟩
      · have h4 : ((t : Int) == 4) = true ∨ (wrap64 (s[i + t].toNat : Int) == 0) = true := by assumption
        have h3 : ¬ (t : Int) = 4 := by assumption
        have h2 : 0 < t := by assumption
        rw [unhide HW] at h4
        have e := HH.2.eqBad HR hlt (Or.inr ⟨h2, by simp at h4; omega⟩)
        subst e
        exact bodyPost_ret (v := .agg #[.int .i64 0, .int .i64 0, .int .i64 ((i : Int) + t), .bool false]) (by simp [results, Tryz.results84, go_sem]) rfl ⟨ret_found rfl rfl (by simp [Lk.Rd.badAt]) rfl, (Below.refl _ _).alloc (Nat.le_refl _) _⟩
      · have h4 : ((t : Int) == 4) = false ∧ (wrap64 (s[i + t].toNat : Int) == 0) = false := by assumption
        have h5 : wrap64 (s[i + t].toNat : Int) < 128 := by assumption
        have h6 : ¬ (t : Int) = 4 := by assumption
        rw [unhide HW] at h4 h5
        simp at h4
        have e := HH.2.eqLast HR hlt (by omega) (by omega) (by omega)
        have g := (ref_step HH (by omega) s[i + t]).1
        subst e
        exact bodyPost_ret (v := .agg #[.int .i64 (wrap64 ((acc : Int) + wrap64 ((wrap64 (s[i + t].toNat : Int)).tmod 128 * (B : Int)))), .int .i64 ((i : Int) + t + 1), .int .i64 (-1), .bool false]) (by simp [results, Tryz.results84, go_sem]) rfl ⟨ret_found g (by simp [Lk.Rd.next]; omega) rfl rfl, (Below.refl _ _).alloc (Nat.le_refl _) _⟩
      · have h4 : ((t : Int) == 4) = false ∧ (wrap64 (s[i + t].toNat : Int) == 0) = false := by assumption
        have h5 : 128 ≤ wrap64 (s[i + t].toNat : Int) := by assumption
        have h6 : ¬ (t : Int) = 4 := by assumption
        rw [unhide HW] at h4 h5
        simp at h4
        have g := ref_step HH (by omega) s[i + t]
        have hn := HH.2.next hlt (by omega) (by omega) (by omega)
        go_roundw
        case rel => exact ⟨t + 1, _, _, by go_num, by rw [g.1], by rw [g.2], ⟨rfl, by rw [← Nat.add_assoc]; exact hn⟩, by first | rfl | trivial⟩
        case measure => simp [intOf]; omega
      · have h5 : wrap64 (s[i + t].toNat : Int) < 128 := by assumption
        have h6 : ¬ 0 < t := by assumption
        rw [unhide HW] at h5
        have e := HH.2.eqLast HR hlt (by omega) (by omega) (by omega)
        have g := (ref_step HH (by omega) s[i + t]).1
        subst e
        exact bodyPost_ret (v := .agg #[.int .i64 (wrap64 ((acc : Int) + wrap64 ((wrap64 (s[i + t].toNat : Int)).tmod 128 * (B : Int)))), .int .i64 ((i : Int) + t + 1), .int .i64 (-1), .bool false]) (by simp [results, Tryz.results84, go_sem]) rfl ⟨ret_found g (by simp [Lk.Rd.next]; omega) rfl rfl, (Below.refl _ _).alloc (Nat.le_refl _) _⟩
      · have h5 : 128 ≤ wrap64 (s[i + t].toNat : Int) := by assumption
        have h6 : ¬ 0 < t := by assumption
        rw [unhide HW] at h5
        have g := ref_step HH (by omega) s[i + t]
        have hn := HH.2.next hlt (by omega) (by omega) (by omega)
        go_roundw
        case rel => exact ⟨t + 1, _, _, by go_num, by rw [g.1], by rw [g.2], ⟨rfl, by rw [← Nat.add_assoc]; exact hn⟩, by first | rfl | trivial⟩
        case measure => simp [intOf]; omega
    · have hlt' : ¬ ((i : Int) + t < s.size) := by omega
      go_wp2
      have e := HH.2.eqShort HR hlt
      subst e
      refine bodyPost_ret (v := .agg #[.int .i64 0, .int .i64 0, .int .i64 (-1), .bool true]) (by simp [results, Tryz.results84, go_sem]) rfl ⟨rfl, (Below.refl _ _).alloc (Nat.le_refl _) _⟩

end Go.Proofs.YtbkpdapagfjmmaaGreatDoor

/-
  Walks: is a payload one of its kind (both sides).
-/
namespace Go.Proofs.YtbkpdapagfjmmaaGreatDoor
open Go.RowKit

theorem whole_good (l : Lk.Bs) : Lk.numberWhole l = ((Lk.rd 0 0 l).good && decide (l.length ≤ (Lk.rd 0 0 l).at 0 l.length)) := by
  unfold Lk.numberWhole
  cases h : Lk.rd 0 0 l with
  | short => rfl
  | bad k => rfl
  | ok n k =>
    have := Lk.rd_ok_bounds l 0 0 n k h
    simp only [Lk.Rd.good, Lk.Rd.at, Bool.true_and]
    rw [Bool.eq_iff_iff]
    simp
    omega

theorem whole_found (l : Lk.Bs) : Lk.numberWhole l = (decide ((Lk.rd 0 0 l).badAt 0 < 0) && (!(Lk.rd 0 0 l).isShort && decide ((Lk.rd 0 0 l).next 0 = (l.length : Int)))) := by
  unfold Lk.numberWhole
  cases h : Lk.rd 0 0 l with
  | short => rfl
  | bad k =>
    have hb : ¬ ((Lk.Rd.bad k).badAt 0 < 0) := by simp only [Lk.Rd.badAt]; omega
    rw [decide_eq_false hb]; rfl
  | ok n k =>
    rw [Bool.eq_iff_iff]
    simp [Lk.Rd.badAt, Lk.Rd.isShort, Lk.Rd.next]
    omega


set_option maxHeartbeats 400000 in
set_option maxRecDepth 100000 in
theorem askPayload_yes (k : Int) (s : ByteArray) (w : World) (hs : s.size ≤ maxLen) (hk : k = 3 ∨ k = 4 ∨ k = 7) :
    Calls Tryz.prog 138 #[.int .i64 k, .string s] w fun e w' => e = .returned (.int .i64 (Lk.payloadErr k s.data.toList)) ∧ Below w.heap.size w w' := by
  have HN := hide (fun b T w hI => number_any b T s 0 [] w hs (Nat.zero_le _) hI)
  have HE := hide (fun b T p w hI => ended_any b T s p [] w hs hI)
  have hg := whole_good s.data.toList
  rw [← size_list] at hg
  have hpe : Lk.payloadErr k s.data.toList = if Lk.numberWhole s.data.toList = false then 6 else 0 := by
    unfold Lk.payloadErr Lk.payloadFits
    rw [if_pos hk]
  rw [hg] at hpe
  clear hg
  generalize Lk.payloadErr k s.data.toList = pe at *
  generalize hr : Lk.rd 0 0 s.data.toList = r at *
  have HG := hide hpe
  have HR := hide hr
  clear hr hpe
  rcases hk with rfl | rfl | rfl
  all_goals
    go_enter Tryz.func138, Tryz.ntmps138
    go_wp2_with fail
    refine (unhide HN _ 83 _ (Is.new w 83 [.string s, .int .i64 0])).mono ?_
    rw [List.drop_zero, unhide HR]
    rintro e w1 ⟨rfl, hI, hT⟩
    have hb1 : Below w.heap.size w w1 := hT.toBelow ((Below.refl _ _).alloc (Nat.le_refl _) _) (Nat.le_refl _) (by simp)
    generalize r.val = v
    generalize hp : Lk.Rd.at 0 s.size r = p at *
    generalize hg : r.good = g
    have HGD := hide hg
    clear hp hg
    cases g
    · go_wp2_with fail
      go_ret
      exact ⟨ret_int (by rw [unhide HG, unhide HGD]; rfl), hb1⟩
    · go_wp2_with fail
      refine (unhide HE _ _ _ _ hI).mono ?_
      rintro e w2 ⟨rfl, n2, rfl⟩
      generalize hd : decide (s.size ≤ p) = d
      have HD := hide hd
      clear hd
      cases d
      all_goals
        go_wp2_with fail
        go_ret
        exact ⟨ret_int (by rw [unhide HG, unhide HGD, unhide HD]; rfl), Below.drewN hb1 _⟩

set_option maxHeartbeats 400000 in
set_option maxRecDepth 100000 in
theorem askPayload_no (k : Int) (s : ByteArray) (w : World) (hk : ¬ (k = 3 ∨ k = 4 ∨ k = 7)) :
    Calls Tryz.prog 138 #[.int .i64 k, .string s] w fun e w' => e = .returned (.int .i64 (Lk.payloadErr k s.data.toList)) ∧ Below w.heap.size w w' := by
  have hpe : Lk.payloadErr k s.data.toList = 0 := by
    unfold Lk.payloadErr Lk.payloadFits
    rw [if_neg hk]; rfl
  rw [hpe]
  have h3 : (k == 3) = false := by simp; omega
  have h4 : (k == 4) = false := by simp; omega
  have h7 : (k == 7) = false := by simp; omega
  clear hpe hk
  go_enter Tryz.func138, Tryz.ntmps138
  go_wp2_with fail
  go_ret
  exact ⟨rfl, Below.refl _ _⟩

theorem askPayload_any (k : Int) (s : ByteArray) (w : World) (hs : s.size ≤ maxLen) :
    Calls Tryz.prog 138 #[.int .i64 k, .string s] w fun e w' => e = .returned (.int .i64 (Lk.payloadErr k s.data.toList)) ∧ Below w.heap.size w w' := by
  by_cases hk : k = 3 ∨ k = 4 ∨ k = 7
  · exact askPayload_yes k s w hs hk
  · exact askPayload_no k s w hk

set_option maxHeartbeats 400000 in
set_option maxRecDepth 100000 in
theorem payloadFits_yes (k : Int) (s : ByteArray) (w : World) (hs : s.size ≤ 2 ^ 62) (hk : k = 3 ∨ k = 4 ∨ k = 7) :
    Calls Tryz.prog 87 #[.int .i64 k, .string s] w fun e w' => e = .returned (.bool (Lk.payloadFits k s.data.toList)) ∧ Below w.heap.size w w' := by
  have HN := hide (fun w => refnumber_any s 0 w hs (Nat.zero_le _))
  have hg := whole_found s.data.toList
  rw [← size_list] at hg
  have hpe : Lk.payloadFits k s.data.toList = Lk.numberWhole s.data.toList := by
    unfold Lk.payloadFits
    rw [if_pos hk]
  rw [hg] at hpe
  clear hg
  generalize Lk.payloadFits k s.data.toList = pe at *
  generalize hr : Lk.rd 0 0 s.data.toList = r at *
  have HG := hide hpe
  have HR := hide hr
  clear hr hpe
  rcases hk with rfl | rfl | rfl
  all_goals
    go_enter Tryz.func87, Tryz.ntmps87
    go_wp2_with fail
    refine (unhide HN _).mono ?_
    rw [List.drop_zero, unhide HR]
    rintro e w1 ⟨rfl, hb1⟩
    generalize r.val = v
    generalize hx : r.badAt 0 = x at *
    generalize hy : r.next 0 = y at *
    generalize hz : r.isShort = z at *
    clear hx hy hz
    by_cases hx : x < 0
    · cases z
      · by_cases hyy : y = (s.size : Int)
        · have hyb : (y == (s.size : Int)) = true := by simpa using hyy
          have H := hide (decide_eq_true hyy)
          clear hyy
          go_wp2_with fail
          go_ret
          exact ⟨ret_bool (by rw [unhide HG, unhide H, decide_eq_true hx]; simp), hb1.alloc hb1.size _⟩
        · have hyb : (y == (s.size : Int)) = false := by simpa using hyy
          have H := hide (decide_eq_false hyy)
          clear hyy
          go_wp2_with fail
          go_ret
          exact ⟨ret_bool (by rw [unhide HG, unhide H, decide_eq_true hx]; simp), hb1.alloc hb1.size _⟩
      · go_wp2_with fail
        go_ret
        exact ⟨ret_bool (by rw [unhide HG]; simp), hb1.alloc hb1.size _⟩
    · have H := hide (decide_eq_false hx)
      go_wp2_with fail
      go_ret
      exact ⟨ret_bool (by rw [unhide HG, unhide H]; simp), hb1.alloc hb1.size _⟩

set_option maxHeartbeats 400000 in
set_option maxRecDepth 100000 in
theorem payloadFits_no (k : Int) (s : ByteArray) (w : World) (hk : ¬ (k = 3 ∨ k = 4 ∨ k = 7)) :
    Calls Tryz.prog 87 #[.int .i64 k, .string s] w fun e w' => e = .returned (.bool (Lk.payloadFits k s.data.toList)) ∧ Below w.heap.size w w' := by
  have hpe : Lk.payloadFits k s.data.toList = true := by
    unfold Lk.payloadFits
    rw [if_neg hk]
  rw [hpe]
  have h3 : (k != 3) = true := by rw [bne_iff_ne]; omega
  have h4 : (k != 4) = true := by rw [bne_iff_ne]; omega
  have h7 : (k != 7) = true := by rw [bne_iff_ne]; omega
  clear hpe hk
  go_enter Tryz.func87, Tryz.ntmps87
  go_wp2_with fail
  go_ret
  exact ⟨rfl, Below.refl _ _⟩

theorem payloadFits_any (k : Int) (s : ByteArray) (w : World) (hs : s.size ≤ 2 ^ 62) :
    Calls Tryz.prog 87 #[.int .i64 k, .string s] w fun e w' => e = .returned (.bool (Lk.payloadFits k s.data.toList)) ∧ Below w.heap.size w w' := by
  by_cases hk : k = 3 ∨ k = 4 ∨ k = 7
  · exact payloadFits_yes k s w hs hk
  · exact payloadFits_no k s w hk

end Go.Proofs.YtbkpdapagfjmmaaGreatDoor
