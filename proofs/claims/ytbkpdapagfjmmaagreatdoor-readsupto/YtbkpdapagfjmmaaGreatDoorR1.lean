/-
  Walks: strings.Clone, at short strings.
-/
import Derived.Test.YtbkpdapagfjmmaaGreatDoorP3
import Derived.Test.YtbkpdapagfjmmaaGreatDoorProg
import Derived.Lib.BufferWrite
import Derived.Lib.UnsafeStr
import Derived.Laws.MakeOwn
namespace Go.Proofs.YtbkpdapagfjmmaaGreatDoor
open Go.RowKit

theorem empty_of (s : ByteArray) (h : s.size = 0) : s = ⟨#[]⟩ := ByteArray.ext (Array.eq_empty_of_size_eq_zero h)
theorem isEmpty_of (s : ByteArray) (h : 0 < s.size) : s.toList.isEmpty = false := by
  rw [ByteArray.toList_eq]
  rw [size_list] at h
  cases e : s.data.toList with
  | nil => rw [e] at h; simp at h
  | cons x t => rfl

theorem u8_info : (Tryz.prog.info? 5).map (fun i => (i.zero, i.size, i.bytes)) = some (some (.int .u8 0), 1, 1) := by kernel_rfl
theorem u8_one : Tryz.prog.cellsOf 5 = 1 := by kernel_rfl

set_option maxHeartbeats 1000000 in
set_option maxRecDepth 100000 in
theorem cloneLite_any (s : ByteArray) (w : World) (h : s.size ≤ 1000) :
    Calls Tryz.prog 120 #[.string s] w fun e w' => e = .returned (.string s) ∧ Below w.heap.size w w' := by
  by_cases h0 : s.size = 0
  · obtain rfl : s = ⟨#[]⟩ := ByteArray.ext (Array.eq_empty_of_size_eq_zero h0)
    go_enter Tryz.func120, Tryz.ntmps120
    go_wp2
    go_ret
    exact ⟨rfl, Below.refl _ _⟩
  have hz : ((s.size : Int) == 0) = false := by rw [beq_eq_false_iff_ne]; omega
  obtain ⟨i, hi, hi0, hi1, hi2⟩ := info_parts u8_info
  generalize hM : madeCells (Value.int .u8 0).cells (((s.size : Nat) : Int).toNat * i.size) = M
  have hMs : M.size = s.size := by rw [← hM, size_madeCells, hi1]; simp
  have hmake : ∀ W : World, (Instr.makeSlice 78 (.int .i64 (s.size : Int)) (.int .i64 (s.size : Int))).run Tryz.prog W = .ok (.slice (some ⟨W.heap.size, 0, none⟩) s.size s.size) (W.alloc (.cells M 5)) := by
    intro W
    have e := run_make (P := Tryz.prog) W 78 5 i (.int .u8 0) Tryz.underlying78 hi hi0 .i64 .i64 (s.size : Int) (s.size : Int) (by omega) (by omega) (by rw [hi2]; omega) (by omega)
    rw [hM] at e
    simpa using e
  have hg : (w.alloc (.cells M 5)).heap[w.heap.size]? = some (.cells M 5 (0, 0)) := heap_alloc_new w _
  have hcopy := Lib.run_copy_row_string (P := Tryz.prog) (w.alloc (.cells M 5)) 78 9 3 5 w.heap.size 0 s.size s.size s M 5 Tryz.underlying78 (by rw [hi]; simp [hi1]) hg (Nat.le_refl _) (by omega)
  have hrow : (M.toList.take 0 ++ Lib.byteCells s.data.toList ++ M.toList.drop (0 + s.size)) = Lib.byteCells s.data.toList := by
    rw [List.take_zero, List.nil_append, List.drop_of_length_le (by rw [Array.length_toList]; omega), List.append_nil]
  rw [hrow] at hcopy
  have hg2 : ((w.alloc (.cells M 5)).setRow w.heap.size (Lib.byteCells s.data.toList).toArray).heap[w.heap.size]? = some (.cells (Lib.byteCells s.data.toList).toArray 5 (0, 0)) := setRow_heap _ _ M _ 5 (0, 0) hg
  have hb : Below w.heap.size w ((w.alloc (.cells M 5)).setRow w.heap.size (Lib.byteCells s.data.toList).toArray) :=
    ((Below.refl _ _).alloc (Nat.le_refl _) _).trans ⟨rfl, rfl, rfl, by simp, fun k hk => setRow_other _ _ _ _ (by omega)⟩
  clear hM hg hrow
  have hIs : Is ((w.alloc (.cells M 5)).setRow w.heap.size (Lib.byteCells s.data.toList).toArray) w.heap.size 5 (Lib.byteCells s.data.toList) := hg2
  generalize hW : (w.alloc (.cells M 5)).setRow w.heap.size (Lib.byteCells s.data.toList).toArray = W at *
  have hstr := Lib.run_unsafeString_row (P := Tryz.prog) W 266 3 9 5 Tryz.underlying266 u8_one w.heap.size (Lib.byteCells s.data.toList).length (by unfold World.shape?; rw [hg2]; simp) s.data.toList
    (by intro e; have := congrArg List.length e; simp at this; exact h0 (by rw [ByteArray.size, this]; rfl)) (by rw [Lib.byteCells_length]; exact Nat.le_refl _) (by rw [Array.length_toList]; show s.size ≤ _; omega)
    (by
      intro j x hx
      have hplain : (⟨w.heap.size, 0, none⟩ : Addr).add j = ⟨w.heap.size, j, none⟩ := by unfold Addr.add; split <;> simp_all
      rw [hplain, hIs.cell j]
      simp [Lib.byteCells, hx])
  have hlen : s.data.toList.length = s.size := Array.length_toList
  rw [hlen] at hstr
  have hfin : Below w.heap.size w (W.freeze ⟨w.heap.size, 0, none⟩ s.size) := Lib.below_freeze hb (Nat.le_refl _) _
  clear hg2 hIs hW hlen hb
  go_enter Tryz.func120, Tryz.ntmps120
  go_wp2
  go_ret
  exact ⟨rfl, hfin⟩

theorem clone_any (s : ByteArray) (w : World) (h : s.size ≤ 1000) :
    Calls Tryz.prog 70 #[.string s] w fun e w' => e = .returned (.string s) ∧ Below w.heap.size w w' := by
  go_enter Tryz.func70, Tryz.ntmps70
  go_wp2_with fail
  refine (cloneLite_any s _ h).mono ?_
  rintro e w1 ⟨rfl, hb⟩
  go_wp2_with fail
  go_ret
  exact ⟨rfl, hb⟩

end Go.Proofs.YtbkpdapagfjmmaaGreatDoor
