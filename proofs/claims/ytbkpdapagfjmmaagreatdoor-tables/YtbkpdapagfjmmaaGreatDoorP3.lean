/-
  Plain facts on numbers that are read, in the walk's own forms.
-/
import Derived.Test.YtbkpdapagfjmmaaGreatDoorSpec5
import Derived.Test.YtbkpdapagfjmmaaGreatDoorW0
namespace Go.Proofs.YtbkpdapagfjmmaaGreatDoor
open Go.RowKit

theorem size_list (s : ByteArray) : s.size = s.data.toList.length := Array.length_toList.symm
theorem drop_cons (s : ByteArray) (q : Nat) (h : q < s.size) : s.data.toList.drop q = s[q] :: s.data.toList.drop (q + 1) := by
  rw [List.drop_eq_getElem_cons (by simpa using h)]; rfl
theorem drop_end (s : ByteArray) (q : Nat) (h : s.size ≤ q) : s.data.toList.drop q = [] := by
  rw [List.drop_eq_nil_iff]; simpa using h

theorem wraps_i64 (n : Int) (h0 : 0 ≤ n) (h1 : n < 2 ^ 62) : IntKind.i64.wrap n = n := by rw [IntKind.wrap_i64]; omega

theorem low7 (c : Nat) (h : c < 256) : bits .and .u8 (c : Int) 127 = ((c % 128 : Nat) : Int) := by
  have := bits_mask .u8 8 (by decide) wraps_u8 7 (by decide) (c : Int) (by omega) (by omega)
  simpa using this

theorem or_high (i a b : Nat) (hi : i ≤ 40) (ha : a < 2 ^ i) (hb : b % 2 ^ i = 0) (hb2 : b < 2 ^ 62) : bits .or .i64 (a : Int) (b : Int) = ((a + b : Nat) : Int) := by
  have hp : 2 ^ i ≤ 2 ^ 40 := Nat.pow_le_pow_right (by decide) hi
  rw [(bits_nat .i64 62 (by decide) wraps_i64 a b (by omega) hb2).2]
  have hq : b = 2 ^ i * (b / 2 ^ i) := by
    have := Nat.div_add_mod b (2 ^ i)
    omega
  rw [Nat.or_comm, hq, ← Nat.two_pow_add_eq_or_of_lt ha (b / 2 ^ i), Nat.add_comm]

theorem wrap64_small (n : Nat) (h : n < 2 ^ 62) : wrap64 (n : Int) = (n : Int) := IntWalk.wrap64_in _ ⟨by omega, by omega⟩

theorem num_step (t acc c : Nat) (ht : t < 4) (hacc : acc < 128 ^ t) (hc : c < 256) :
    bits .or .i64 (acc : Int) (wrap64 (wrap64 (bits .and .u8 (c : Int) 127) * 2 ^ (7 * t))) = ((acc + c % 128 * 128 ^ t : Nat) : Int) := by
  rw [low7 c hc, wrap64_small _ (by omega)]
  have e : ((c % 128 : Nat) : Int) * 2 ^ (7 * t) = ((c % 128 * 128 ^ t : Nat) : Int) := by
    rcases (by omega : t = 0 ∨ t = 1 ∨ t = 2 ∨ t = 3) with rfl | rfl | rfl | rfl <;> simp
  have hb : c % 128 * 128 ^ t < 2 ^ 62 := by
    rcases (by omega : t = 0 ∨ t = 1 ∨ t = 2 ∨ t = 3) with rfl | rfl | rfl | rfl <;> omega
  rw [e, wrap64_small _ hb]
  refine or_high (7 * t) acc _ (by omega) ?_ ?_ hb
  · rcases (by omega : t = 0 ∨ t = 1 ∨ t = 2 ∨ t = 3) with rfl | rfl | rfl | rfl <;> simpa using hacc
  · rcases (by omega : t = 0 ∨ t = 1 ∨ t = 2 ∨ t = 3) with rfl | rfl | rfl | rfl <;> omega

theorem num_step0 (c : Nat) (hc : c < 256) : bits .or .i64 0 (wrap64 (wrap64 (bits .and .u8 (c : Int) 127))) = ((0 + c % 128 * 128 ^ 0 : Nat) : Int) := by
  have := num_step 0 0 c (by omega) (by omega) hc
  simpa using this

/-- At the label: t bytes of a number are taken and make acc; the cursor is at q. -/
def Halfway (s : ByteArray) (p t q acc : Nat) : Prop := q = p + t ∧ t ≤ 4 ∧ q ≤ s.size ∧ acc < 128 ^ t ∧ Lk.rd t acc (s.data.toList.drop q) = Lk.rd 0 0 (s.data.toList.drop p)

theorem Halfway.start (s : ByteArray) (p : Nat) (hp : p ≤ s.size) : Halfway s p 0 p 0 := ⟨rfl, by omega, hp, by omega, rfl⟩
theorem byte_lt (c : UInt8) : c.toNat < 256 := c.toNat_lt
theorem byte_zero {c : UInt8} (h : c.toNat = 0) : c = 0 := UInt8.toNat_inj.1 (by simpa using h)

theorem Halfway.next {s : ByteArray} {p t q acc : Nat} (h : Halfway s p t q acc) (hlt : q < s.size) (ht : t < 4) (h0 : ¬ (0 < t ∧ s[q].toNat = 0)) (hc : 127 < s[q].toNat) :
    Halfway s p (t + 1) (q + 1) (acc + s[q].toNat % 128 * 128 ^ t) := by
  obtain ⟨rfl, h1, h2, h3, h4⟩ := h
  refine ⟨by omega, by omega, by omega, ?_, ?_⟩
  · rcases (by omega : t = 0 ∨ t = 1 ∨ t = 2 ∨ t = 3) with rfl | rfl | rfl | rfl <;> omega
  · rw [← h4, drop_cons s _ hlt, Lk.rd_next _ _ _ _ (by rintro (h | ⟨h, h'⟩) <;> first | omega | exact h0 ⟨h, by rw [h']; rfl⟩) (by omega)]

theorem Halfway.short {s : ByteArray} {p t q acc : Nat} {r : Lk.Rd} (h : Halfway s p t q acc) (hr : Hid (Lk.rd 0 0 (s.data.toList.drop p) = r)) (hlt : ¬ q < s.size) : r.val = 0 ∧ r.good = false ∧ r.at p s.size = q := by
  obtain ⟨rfl, h1, h2, h3, h4⟩ := h
  have : r = .short := by rw [← unhide hr, ← h4, drop_end s _ (by omega), Lk.rd_nil]
  subst this
  exact ⟨rfl, rfl, by show s.size = _; omega⟩

theorem Halfway.bad {s : ByteArray} {p t q acc : Nat} {r : Lk.Rd} (h : Halfway s p t q acc) (hr : Hid (Lk.rd 0 0 (s.data.toList.drop p) = r)) (hlt : q < s.size) (hb : t = 4 ∨ (0 < t ∧ s[q].toNat = 0)) : r.val = 0 ∧ r.good = false ∧ r.at p s.size = q := by
  obtain ⟨rfl, h1, h2, h3, h4⟩ := h
  have : r = .bad t := by
    rw [← unhide hr, ← h4, drop_cons s _ hlt, Lk.rd_bad _ _ _ _ (hb.imp id fun ⟨a, b⟩ => ⟨a, byte_zero b⟩)]
  subst this
  exact ⟨rfl, rfl, rfl⟩

theorem Halfway.last {s : ByteArray} {p t q acc : Nat} {r : Lk.Rd} (h : Halfway s p t q acc) (hr : Hid (Lk.rd 0 0 (s.data.toList.drop p) = r)) (hlt : q < s.size) (ht : t < 4) (h0 : ¬ (0 < t ∧ s[q].toNat = 0)) (hc : s[q].toNat ≤ 127) :
    r.val = ((acc + s[q].toNat % 128 * 128 ^ t : Nat) : Int) ∧ r.good = true ∧ r.at p s.size = q + 1 := by
  obtain ⟨rfl, h1, h2, h3, h4⟩ := h
  have : r = .ok (acc + s[p + t].toNat % 128 * 128 ^ t) (t + 1) := by
    rw [← unhide hr, ← h4, drop_cons s _ hlt, Lk.rd_last _ _ _ _ (by rintro (h | ⟨h, h'⟩) <;> first | omega | exact h0 ⟨h, by rw [h']; rfl⟩) (by omega)]
  subst this
  exact ⟨rfl, rfl, rfl⟩

theorem ret_num {r : Lk.Rd} {a : Int} {b : Bool} (h : r.val = a) (h' : r.good = b) : Ending.returned (.tuple #[.int .i64 a, .bool b]) = .returned (.tuple #[.int .i64 r.val, .bool r.good]) := by rw [h, h']

theorem extract_list (s : ByteArray) (i j : Nat) : (s.extract i j).data.toList = (s.data.toList.drop i).take (j - i) := by
  rw [ByteArray.data_extract, Array.toList_extract]

end Go.Proofs.YtbkpdapagfjmmaaGreatDoor
