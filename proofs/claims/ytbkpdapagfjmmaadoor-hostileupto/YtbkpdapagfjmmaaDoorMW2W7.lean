import Derived.Test.YtbkpdapagfjmmaaDoorMFKR3
import Derived.Test.YtbkpdapagfjmmaaDoorMPUT6
import Derived.Test.YtbkpdapagfjmmaaDoorMPGA5
import Derived.Test.YtbkpdapagfjmmaaDoorProg
import Derived.Test.YtbkpdapagfjmmaaDoorMW6F1
/-
  Walks: what is asked of a stream, a length, a payload.
-/
namespace Go.Proofs.YtbkpdapagfjmmaaDoor
open Go.RowKit

theorem want_stream (a b x y : Int) (w : World) : (Instr.field 180 (.agg #[.int .i64 a, .int .i64 b, .int .i64 x, .int .i64 y]) 0).run Tryd.prog w = .ok (.agg #[.int .i64 a, .int .i64 b]) w := by kernel_rfl
theorem want_length (a b x y : Int) (w : World) : (Instr.field 180 (.agg #[.int .i64 a, .int .i64 b, .int .i64 x, .int .i64 y]) 1).run Tryd.prog w = .ok (.agg #[.int .i64 x, .int .i64 y]) w := by kernel_rfl

theorem stream_of {k a b x y s : Int} (h : IsWant k a b x y) (h0 : 0 ≤ k) (h7 : k ≤ 7) (hs0 : 0 ≤ s) (hs : s ≤ 268435455) : Lk.streamFits k s = decide (a ≤ s ∧ s ≤ b) := by
  unfold IsWant wantOf at h
  unfold Lk.streamFits
  rcases kinds8 h0 h7 with rfl | rfl | rfl | rfl | rfl | rfl | rfl | rfl <;> simp at h <;> obtain ⟨rfl, rfl, -, -⟩ := h <;> rw [Bool.eq_iff_iff] <;> simp <;> omega

theorem length_of {k a b x y n : Int} (h : IsWant k a b x y) (h0 : 0 ≤ k) (h7 : k ≤ 7) (hs0 : 0 ≤ n) (hs : n ≤ 64) : Lk.lengthFits k n = decide (x ≤ n ∧ n ≤ y) := by
  unfold IsWant wantOf at h
  unfold Lk.lengthFits
  rcases kinds8 h0 h7 with rfl | rfl | rfl | rfl | rfl | rfl | rfl | rfl <;> simp at h <;> obtain ⟨-, -, rfl, rfl⟩ := h <;> rw [Bool.eq_iff_iff] <;> simp <;> omega

set_option maxHeartbeats 400000 in
set_option maxRecDepth 100000 in
theorem askStream_any (k s : Int) (h0 : 0 ≤ k) (h7 : k ≤ 7) (hs0 : 0 ≤ s) (hs : s ≤ 268435455) (w : World) :
    Calls Tryd.prog 84 #[.int .i64 k, .int .i64 s] w fun e w' => e = .returned (.int .i64 (Lk.streamErr k s)) ∧ Below w.heap.size w w' := by
  have f0 := want_stream
  go_enter Tryd.func84, Tryd.ntmps84
  go_wp2_with fail
  refine (wantOf_is k h0 h7 _).mono ?_
  rintro e w1 ⟨a, b, x, y, rfl, H, hb1⟩
  go_wp2_with fail
  refine (holds_any _ _ _ _).mono ?_
  rintro e w2 ⟨rfl, hb2⟩
  have hb := hb1.trans (hb2.mono hb1.size)
  have HS := hide (stream_of H h0 h7 hs0 hs)
  generalize decide (a ≤ s ∧ s ≤ b) = d at *
  cases d
  all_goals
    go_wp2_with fail
    go_ret
    exact ⟨ret_int (by rw [Lk.streamErr, unhide HS]; rfl), hb⟩

set_option maxHeartbeats 400000 in
set_option maxRecDepth 100000 in
theorem askLength_any (k n : Int) (h0 : 0 ≤ k) (h7 : k ≤ 7) (hn0 : 0 ≤ n) (w : World) :
    Calls Tryd.prog 85 #[.int .i64 k, .int .i64 n] w fun e w' => e = .returned (.int .i64 (Lk.lengthErr k n)) ∧ Below w.heap.size w w' := by
  by_cases hn : 64 < n
  · go_enter Tryd.func85, Tryd.ntmps85
    go_wp2_with fail
    go_ret
    exact ⟨ret_int (by rw [Lk.lengthErr, if_pos hn]), Below.refl _ _⟩
  have f0 := want_length
  go_enter Tryd.func85, Tryd.ntmps85
  go_wp2_with fail
  refine (wantOf_is k h0 h7 _).mono ?_
  rintro e w1 ⟨a, b, x, y, rfl, H, hb1⟩
  go_wp2_with fail
  refine (holds_any _ _ _ _).mono ?_
  rintro e w2 ⟨rfl, hb2⟩
  have hb := hb1.trans (hb2.mono hb1.size)
  have HS := hide (length_of H h0 h7 hn0 (by omega))
  generalize decide (x ≤ n ∧ n ≤ y) = d at *
  cases d
  all_goals
    go_wp2_with fail
    go_ret
    exact ⟨ret_int (by rw [Lk.lengthErr, if_neg (by omega), unhide HS]; rfl), hb⟩

end Go.Proofs.YtbkpdapagfjmmaaDoor

/-
  Walks: the document's number.
-/
namespace Go.Proofs.YtbkpdapagfjmmaaDoor
open Go.RowKit

namespace Lk
def Rd.next (i : Nat) : Rd → Int | .ok _ k => ((i + k : Nat) : Int) | _ => 0
def Rd.badAt (i : Nat) : Rd → Int | .bad k => ((i + k : Nat) : Int) | _ => -1
def Rd.isShort : Rd → Bool | .short => true | _ => false
end Lk

/-- In the document's loop: t bytes are taken and make acc; B is what the next one weighs. -/
def RefHalf (s : ByteArray) (i t acc B : Nat) : Prop := B = 128 ^ t ∧ Halfway s i t (i + t) acc

theorem wrap64_byte' (c : UInt8) : wrap64 (c.toNat : Int) = c.toNat := wrap64_small _ (by have := byte_lt c; omega)
theorem tmod_nat (a b : Nat) : ((a : Int).tmod b) = ((a % b : Nat) : Int) := by simp [Int.tmod]

theorem ref_step {s : ByteArray} {i t acc B : Nat} (h : RefHalf s i t acc B) (ht : t < 4) (c : UInt8) :
    wrap64 ((acc : Int) + wrap64 ((wrap64 (c.toNat : Int)).tmod 128 * (B : Int))) = ((acc + c.toNat % 128 * 128 ^ t : Nat) : Int) ∧ wrap64 (128 * (B : Int)) = ((128 ^ (t + 1) : Nat) : Int) := by
  obtain ⟨rfl, h⟩ := h
  have hacc := h.2.2.2.1
  have hc := byte_lt c
  rw [wrap64_byte', show (128 : Int) = ((128 : Nat) : Int) from rfl, tmod_nat]
  have hx : c.toNat % 128 < 128 := by omega
  generalize c.toNat % 128 = x at *
  rcases (by omega : t = 0 ∨ t = 1 ∨ t = 2 ∨ t = 3) with rfl | rfl | rfl | rfl
  all_goals
    have e : ∀ y : Nat, y < 2 ^ 62 → wrap64 (y : Int) = y := wrap64_small
    refine ⟨?_, ?_⟩
    · rw [← Int.natCast_mul, e _ (by omega), ← Int.natCast_add, e _ (by omega)]
    · rw [← Int.natCast_mul, e _ (by omega)]

theorem Halfway.eqShort {s : ByteArray} {p t q acc : Nat} {r : Lk.Rd} (h : Halfway s p t q acc) (hr : Hid (Lk.rd 0 0 (s.data.toList.drop p) = r)) (hlt : ¬ q < s.size) : r = .short := by
  obtain ⟨rfl, h1, h2, h3, h4⟩ := h
  rw [← unhide hr, ← h4, drop_end s _ (by omega), Lk.rd_nil]
theorem Halfway.eqBad {s : ByteArray} {p t q acc : Nat} {r : Lk.Rd} (h : Halfway s p t q acc) (hr : Hid (Lk.rd 0 0 (s.data.toList.drop p) = r)) (hlt : q < s.size) (hb : t = 4 ∨ (0 < t ∧ s[q].toNat = 0)) : r = .bad t := by
  obtain ⟨rfl, h1, h2, h3, h4⟩ := h
  rw [← unhide hr, ← h4, drop_cons s _ hlt, Lk.rd_bad _ _ _ _ (hb.imp id fun ⟨a, b⟩ => ⟨a, byte_zero b⟩)]
theorem Halfway.eqLast {s : ByteArray} {p t q acc : Nat} {r : Lk.Rd} (h : Halfway s p t q acc) (hr : Hid (Lk.rd 0 0 (s.data.toList.drop p) = r)) (hlt : q < s.size) (ht : t < 4) (h0 : ¬ (0 < t ∧ s[q].toNat = 0)) (hc : s[q].toNat ≤ 127) :
    r = .ok (acc + s[q].toNat % 128 * 128 ^ t) (t + 1) := by
  obtain ⟨rfl, h1, h2, h3, h4⟩ := h
  rw [← unhide hr, ← h4, drop_cons s _ hlt, Lk.rd_last _ _ _ _ (by rintro (h | ⟨h, h'⟩) <;> first | omega | exact h0 ⟨h, by rw [h']; rfl⟩) (by omega)]

theorem ret_found {a n b a' n' b' : Int} {x x' : Bool} (h1 : a = a') (h2 : n = n') (h3 : b = b') (h4 : x = x') :
    Ending.returned (.agg #[.int .i64 a, .int .i64 n, .int .i64 b, .bool x]) = .returned (.agg #[.int .i64 a', .int .i64 n', .int .i64 b', .bool x']) := by rw [h1, h2, h3, h4]

end Go.Proofs.YtbkpdapagfjmmaaDoor

/-
  Walks: is a payload one of its kind (both sides).
-/
namespace Go.Proofs.YtbkpdapagfjmmaaDoor
open Go.RowKit

theorem whole_good (l : Lk.Bs) : Lk.numberWhole l = ((Lk.rd 0 0 l).good && decide (l.length ≤ (Lk.rd 0 0 l).at 0 l.length)) := by
  unfold Lk.numberWhole
  cases h : Lk.rd 0 0 l with
  | short => rfl
  | bad k => rfl
  | ok n k =>
    have := Lk.rd_ok_bounds l 0 0 n k h
    simp only [Lk.Rd.good, Lk.Rd.at, Bool.true_and]
    rw [Bool.eq_iff_iff]
    simp
    omega

theorem whole_found (l : Lk.Bs) : Lk.numberWhole l = (decide ((Lk.rd 0 0 l).badAt 0 < 0) && (!(Lk.rd 0 0 l).isShort && decide ((Lk.rd 0 0 l).next 0 = (l.length : Int)))) := by
  unfold Lk.numberWhole
  cases h : Lk.rd 0 0 l with
  | short => rfl
  | bad k =>
    have hb : ¬ ((Lk.Rd.bad k).badAt 0 < 0) := by simp only [Lk.Rd.badAt]; omega
    rw [decide_eq_false hb]; rfl
  | ok n k =>
    rw [Bool.eq_iff_iff]
    simp [Lk.Rd.badAt, Lk.Rd.isShort, Lk.Rd.next]
    omega


set_option maxHeartbeats 400000 in
set_option maxRecDepth 100000 in
theorem askPayload_yes (k : Int) (s : ByteArray) (w : World) (hs : s.size ≤ maxLen) (hk : k = 3 ∨ k = 4 ∨ k = 7) :
    Calls Tryd.prog 87 #[.int .i64 k, .string s] w fun e w' => e = .returned (.int .i64 (Lk.payloadErr k s.data.toList)) ∧ Below w.heap.size w w' := by
  have HN := hide (fun b T w hI => number_any b T s 0 [] w hs (Nat.zero_le _) hI)
  have HE := hide (fun b T p w hI => ended_any b T s p [] w hs hI)
  have hg := whole_good s.data.toList
  rw [← size_list] at hg
  have hpe : Lk.payloadErr k s.data.toList = if Lk.numberWhole s.data.toList = false then 6 else 0 := by
    unfold Lk.payloadErr Lk.payloadFits
    rw [if_pos hk]
  rw [hg] at hpe
  clear hg
  generalize Lk.payloadErr k s.data.toList = pe at *
  generalize hr : Lk.rd 0 0 s.data.toList = r at *
  have HG := hide hpe
  have HR := hide hr
  clear hr hpe
  rcases hk with rfl | rfl | rfl
  all_goals
    go_enter Tryd.func87, Tryd.ntmps87
    go_wp2_with fail
    refine (unhide HN _ 68 _ (Is.new w 68 [.string s, .int .i64 0])).mono ?_
    rw [List.drop_zero, unhide HR]
    rintro e w1 ⟨rfl, hI, hT⟩
    have hb1 : Below w.heap.size w w1 := hT.toBelow ((Below.refl _ _).alloc (Nat.le_refl _) _) (Nat.le_refl _) (by simp)
    generalize r.val = v
    generalize hp : Lk.Rd.at 0 s.size r = p at *
    generalize hg : r.good = g
    have HGD := hide hg
    clear hp hg
    cases g
    · go_wp2_with fail
      go_ret
      exact ⟨ret_int (by rw [unhide HG, unhide HGD]; rfl), hb1⟩
    · go_wp2_with fail
      refine (unhide HE _ _ _ _ hI).mono ?_
      rintro e w2 ⟨rfl, n2, rfl⟩
      generalize hd : decide (s.size ≤ p) = d
      have HD := hide hd
      clear hd
      cases d
      all_goals
        go_wp2_with fail
        go_ret
        exact ⟨ret_int (by rw [unhide HG, unhide HGD, unhide HD]; rfl), Below.drewN hb1 _⟩

set_option maxHeartbeats 400000 in
set_option maxRecDepth 100000 in
theorem askPayload_no (k : Int) (s : ByteArray) (w : World) (hk : ¬ (k = 3 ∨ k = 4 ∨ k = 7)) :
    Calls Tryd.prog 87 #[.int .i64 k, .string s] w fun e w' => e = .returned (.int .i64 (Lk.payloadErr k s.data.toList)) ∧ Below w.heap.size w w' := by
  have hpe : Lk.payloadErr k s.data.toList = 0 := by
    unfold Lk.payloadErr Lk.payloadFits
    rw [if_neg hk]; rfl
  rw [hpe]
  have h3 : (k == 3) = false := by simp; omega
  have h4 : (k == 4) = false := by simp; omega
  have h7 : (k == 7) = false := by simp; omega
  clear hpe hk
  go_enter Tryd.func87, Tryd.ntmps87
  go_wp2_with fail
  go_ret
  exact ⟨rfl, Below.refl _ _⟩

theorem askPayload_any (k : Int) (s : ByteArray) (w : World) (hs : s.size ≤ maxLen) :
    Calls Tryd.prog 87 #[.int .i64 k, .string s] w fun e w' => e = .returned (.int .i64 (Lk.payloadErr k s.data.toList)) ∧ Below w.heap.size w w' := by
  by_cases hk : k = 3 ∨ k = 4 ∨ k = 7
  · exact askPayload_yes k s w hs hk
  · exact askPayload_no k s w hk

end Go.Proofs.YtbkpdapagfjmmaaDoor
