/-
  Walks: a frame is appended; frames whose payload is a number.
-/
import Derived.Test.YtbkpdapagfjmmaaGreatDoorW6
import Derived.Test.YtbkpdapagfjmmaaGreatDoorW3
namespace Go.Proofs.YtbkpdapagfjmmaaGreatDoor
open Go.RowKit

theorem isNumber_any (n : Int) (w : World) : Calls Tryz.prog 83 #[.int .i64 n] w fun e w' => e = .returned (.bool (decide (0 ≤ n) && decide (n ≤ 268435455))) ∧ w' = w := by
  by_cases h : 0 ≤ n
  · have hd : decide (0 ≤ n) = true := by simpa using h
    go_enter Tryz.func83, Tryz.ntmps83
    go_wp2_with fail
    go_ret
    exact ⟨ret_bool (by first | rfl | (rw [hd]; simp) | simp [hd]), rfl⟩
  · have hd : decide (0 ≤ n) = false := by simpa using h
    go_enter Tryz.func83, Tryz.ntmps83
    go_wp2_with fail
    go_ret
    exact ⟨ret_bool (by first | rfl | (rw [hd]; simp) | simp [hd]), rfl⟩

theorem frame_cells (k st : Nat) (s : ByteArray) (xs : List UInt8) : bytesV ((xs ++ [UInt8.ofNat k]) ++ (Lk.wire st ++ Lk.wire s.size)) ++ Lib.strCells s = bytesV (xs ++ Lk.packed k st s.data.toList) := by
  rw [strCells_bytes, bytesV, bytesV, bytesV, ← List.map_append, Lk.packed, Int.toNat_natCast, Int.toNat_natCast, ← size_list]
  simp
theorem frame_len (k st : Nat) (s : ByteArray) (xs : List UInt8) : xs.length + 1 + ((Lk.wire st).length + (Lk.wire s.size).length) + s.size = (xs ++ Lk.packed k st s.data.toList).length := by
  rw [Lk.packed, Int.toNat_natCast, Int.toNat_natCast, ← size_list]
  simp only [List.length_append, List.length_cons, ← size_list]
  omega
theorem own_len' {w : World} {B : Nat} {e : TypeId} {size n m : Nat} {v : Value} {xs : List Value} (hn : m = n) (h : w.ownsRow B e size v n xs) : w.ownsRow B e size v m xs := by rw [hn]; exact h
theorem byte_kind (k : Nat) (hk : k ≤ 7) : (IntKind.u8.wrap (k : Int)) = ((UInt8.ofNat k).toNat : Int) := by
  rw [← byte_small k (by omega)]
  obtain rfl | rfl | rfl | rfl | rfl | rfl | rfl | rfl : k = 0 ∨ k = 1 ∨ k = 2 ∨ k = 3 ∨ k = 4 ∨ k = 5 ∨ k = 6 ∨ k = 7 := by omega
  all_goals decide

set_option maxHeartbeats 1000000 in
set_option maxRecDepth 100000 in
theorem appendFrame_any (B : Nat) (v : Value) (xs : List UInt8) (k st : Nat) (s : ByteArray) (w : World) (hB : B ≤ w.heap.size) (ho : w.ownsRow B 5 1 v xs.length (bytesV xs)) (hl : xs.length ≤ 2 ^ 44) (hk : k ≤ 7) (hst : st ≤ 268435455) (hs : s.size ≤ 64) :
    Calls Tryz.prog 36 #[v, .agg #[.int .i64 (k : Int), .int .i64 (st : Int), .string s]] w fun e w' =>
      ∃ v', e = .returned v' ∧ w'.ownsRow B 5 1 v' (xs ++ Lk.packed k st s.data.toList).length (bytesV (xs ++ Lk.packed k st s.data.toList)) ∧ Below B w w' ∧ KeepsT 5 w w' := by
  obtain ⟨i, hi, hz0, hz1, hz2⟩ := info_parts info_u8
  have hI0 := Is.new w 79 [.int .i64 (k : Int), .int .i64 (st : Int), .string s]
  have hb0 := (Below.refl B w).alloc hB (.cells #[.int .i64 (k : Int), .int .i64 (st : Int), .string s] 79)
  have hk0 := (KeepsT.refl 5 w).alloc (.cells #[.int .i64 (k : Int), .int .i64 (st : Int), .string s] 79)
  have ho0 := ho.alloc (.cells #[.int .i64 (k : Int), .int .i64 (st : Int), .string s] 79)
  have hw4 := Lk.wire_len_le4 st hst
  have hw5 := Lk.wire_len_le4 s.size (by omega)
  have HB0 := hide hb0
  have HK0 := hide hk0
  have HI0 := hide hI0
  clear hb0 hk0 hI0
  have hkk : (k : Int) ≤ 7 := by omega
  go_enter Tryz.func36, Tryz.ntmps36
  go_wp2_with (at_builtin; refine wpList_append_own _ rfl _ _ 78 rfl B 5 i _ 1 1 Tryz.underlying78 hi hz0 hz1 hz2 rfl (by decide) _ xs.length (bytesV xs) rfl (ho0.alloc _) ⟨w.heap.size + 1, 0, none⟩ 1 1 [.int .u8 (k : Int)] rfl rfl ?hnews ?h1 ?h63 ?hby ?hba ?_)
  case hnews => exact one_new_at _ _ _ _ (by simp)
  case h1 => simp [Value.oneCell']
  case h63 => unfold maxLen; omega
  case hby => omega
  case hba => first | omega | (simp; omega)
  intro v1 w1 ho1 hg1 _
  rw [bytesV_snoc xs (UInt8.ofNat k) _ (by first | exact byte_kind k hk | exact byte_small k (by omega))] at ho1
  have hoa := ho0.alloc (.cells #[.int .u8 (k : Int)] 5)
  have hIa := (unhide HI0).alloc (.cells #[.int .u8 (k : Int)] 5)
  have hI1 := hIa.grown hg1 (own_ne hoa hIa (Nat.ne_of_beq_eq_false rfl))
  have hb1 : Below B w w1 := (((unhide HB0).alloc (by simp; omega) _)).grown hg1 (by simp; omega) (fun j hj => (ho.lt j hj).1)
  have hk1 : KeepsT 5 w w1 := ((unhide HK0).alloc (.cells #[.int .u8 (k : Int)] 5)).grown hg1 hoa
  have hs1 : w.heap.size < w1.heap.size := hI1.lt
  have c1 := hI1.cell 1
  have c2 := hI1.cell 2
  simp only [List.getElem?_cons_zero, List.getElem?_cons_succ] at c1 c2
  have hl1 : xs.length + 1 = (xs ++ [UInt8.ofNat k]).length := by simp
  rw [hl1] at ho1
  clear hg1 ho0 hoa hIa HB0 HK0 HI0 ho
  generalize hys : xs ++ [UInt8.ofNat k] = ys at ho1
  have hyl : ys.length = xs.length + 1 := by rw [← hys]; simp
  have HYS := hide hys
  clear hys hl1
  go_wp2_with fail
  refine (appendNumber_T B v1 ys st hst _ (by omega) ho1 (by omega)).mono ?_
  rintro e w2 ⟨v2, rfl, ho2, hb2, hk2⟩
  have hI2 := hk2 _ _ _ (Nat.ne_of_beq_eq_false rfl) hI1
  have hbw2 := hb1.trans hb2
  have hkw2 := hk1.trans hk2
  have hs2 : w.heap.size < w2.heap.size := hI2.lt
  have c2 := hI2.cell 2
  simp only [List.getElem?_cons_zero, List.getElem?_cons_succ] at c2
  clear hI1 hb1 hk1 hb2 hk2 ho1 c1
  go_wp2_with fail
  refine (appendNumber_T B v2 _ s.size (by omega) _ (by omega) ho2 (by simp; omega)).mono ?_
  rintro e w3 ⟨v3, rfl, ho3, hb3, hk3⟩
  have hI3 := hk3 _ _ _ (Nat.ne_of_beq_eq_false rfl) hI2
  have hbw3 := hbw2.trans hb3
  have hkw3 := hkw2.trans hk3
  have hs3 : w.heap.size < w3.heap.size := hI3.lt
  have c2 := hI3.cell 2
  simp only [List.getElem?_cons_zero, List.getElem?_cons_succ] at c2
  clear hI2 hbw2 hkw2 hb3 hk3 ho2
  go_wp2_with (at_builtin; refine Lib.wpList_append_own_string _ rfl _ _ 78 9 rfl B 5 i Tryz.underlying78 Tryz.underlying9 hi hz0 hz1 hz2 _ _ _ rfl ho3 s rfl ?h63 ?hby ?hba ?_)
  case h63 => unfold maxLen; simp; omega
  case hby => simp; omega
  case hba => omega
  intro v4 w4 ho4 hg4 _
  rw [← unhide HYS, frame_cells] at ho4
  have ho4 := own_len' (m := (xs ++ Lk.packed k st s.data.toList).length) (by first | exact (frame_len k st s xs).symm | (simp only [List.length_append, List.length_cons, List.length_nil]; have := frame_len k st s xs; simp only [List.length_append] at this; omega)) ho4
  have hbw4 : Below B w w4 := hbw3.grown hg4 (by omega) (fun j hj => (ho3.lt j hj).1)
  have hkw4 : KeepsT 5 w w4 := hkw3.grown hg4 ho3
  clear ho3 hg4 hbw3 hkw3 hI3
  go_wp2_with fail
  go_ret
  exact ⟨_, rfl, ho4, hbw4, hkw4⟩
end Go.Proofs.YtbkpdapagfjmmaaGreatDoor
