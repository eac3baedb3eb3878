import Derived.Test.YtbkpdapagfjmmaaGreatDoorA4
import Derived.Test.YtbkpdapagfjmmaaGreatDoorProg
import Derived.Lib.BufferWrite
import Derived.Lib.UnsafeStr
import Derived.Laws.MakeOwn
set_option linter.unusedVariables false
set_option maxRecDepth 100000
set_option maxHeartbeats 16000000
namespace Go.Proofs.YtbkpdapagfjmmaaGreatDoor
open Go.RowKit
theorem empty_of (s : ByteArray) (h : s.size = 0) : s = ⟨#[]⟩ := ByteArray.ext (Array.eq_empty_of_size_eq_zero h)
theorem FW (s : ByteArray) (h : 0 < s.size) : s.toList.isEmpty = false := by
 rw [ByteArray.toList_eq]
 rw [af] at h
 cases e : s.data.toList with
 | nil => rw [e] at h; simp at h
 | cons x t => rfl
theorem O8 : (Tryz.prog.info? 5).map (fun i => (i.zero, i.size, i.bytes)) = some (some (.int .u8 0), 1, 1) := by kernel_rfl
theorem Q5 : Tryz.prog.cellsOf 5 = 1 := by kernel_rfl
theorem xM (s : ByteArray) (w : World) (h : s.size <= 1000) :
 Calls Tryz.prog 120 #[.string s] w fun e w' => e = .returned (.string s) ∧ Below w.heap.size w w' := by
 by_cases h0 : s.size = 0
 . obtain rfl : s = ⟨#[]⟩ := ByteArray.ext (Array.eq_empty_of_size_eq_zero h0)
   go_enter Tryz.func120, Tryz.ntmps120
   go_wp2
   go_ret
   exact ⟨rfl, Below.refl _ _⟩
 have hz : ((s.size : Int) == 0) = false := by rw [beq_eq_false_iff_ne]; omega
 obtain ⟨i, hi, hi0, hi1, hi2⟩ := info_parts O8
 generalize hM : madeCells (Value.int .u8 0).cells (((s.size : Nat) : Int).toNat * i.size) = M
 have hMs : M.size = s.size := by rw [<- hM, size_madeCells, hi1]; simp
 have V7 : ∀ W : World, (Instr.makeSlice 78 (.int .i64 (s.size : Int)) (.int .i64 (s.size : Int))).run Tryz.prog W = .ok (.slice (some ⟨W.heap.size, 0, none⟩) s.size s.size) (W.alloc (.cells M 5)) := by
  intro W
  have e := run_make (P := Tryz.prog) W 78 5 i (.int .u8 0) Tryz.underlying78 hi hi0 .i64 .i64 (s.size : Int) (s.size : Int) (by omega) (by omega) (by rw [hi2]; omega) (by omega)
  rw [hM] at e
  simpa using e
 have hg : (w.alloc (.cells M 5)).heap[w.heap.size]? = some (.cells M 5 (0, 0)) := heap_alloc_new w _
 have hcopy := Lib.run_copy_row_string (P := Tryz.prog) (w.alloc (.cells M 5)) 78 9 3 5 w.heap.size 0 s.size s.size s M 5 Tryz.underlying78 (by rw [hi]; simp [hi1]) hg (Nat.le_refl _) (by omega)
 have hrow : (M.toList.take 0 ++ Lib.byteCells s.data.toList ++ M.toList.drop (0 + s.size)) = Lib.byteCells s.data.toList := by
  rw [List.take_zero, List.nil_append, List.drop_of_length_le (by rw [Array.length_toList]; omega), List.append_nil]
 rw [hrow] at hcopy
 have hg2 : ((w.alloc (.cells M 5)).setRow w.heap.size (Lib.byteCells s.data.toList).toArray).heap[w.heap.size]? = some (.cells (Lib.byteCells s.data.toList).toArray 5 (0, 0)) := setRow_heap _ _ M _ 5 (0, 0) hg
 have hb : Below w.heap.size w ((w.alloc (.cells M 5)).setRow w.heap.size (Lib.byteCells s.data.toList).toArray) :=
  ((Below.refl _ _).alloc (Nat.le_refl _) _).trans ⟨rfl, rfl, rfl, by simp, fun k hk => setRow_other _ _ _ _ (by omega)⟩
 clear hM hg hrow
 have hIs : Is ((w.alloc (.cells M 5)).setRow w.heap.size (Lib.byteCells s.data.toList).toArray) w.heap.size 5 (Lib.byteCells s.data.toList) := hg2
 generalize hW : (w.alloc (.cells M 5)).setRow w.heap.size (Lib.byteCells s.data.toList).toArray = W at *
 have hstr := Lib.run_unsafeString_row (P := Tryz.prog) W 266 3 9 5 Tryz.underlying266 Q5 w.heap.size (Lib.byteCells s.data.toList).length (by unfold World.shape?; rw [hg2]; simp) s.data.toList
  (by intro e; have := congrArg List.length e; simp at this; exact h0 (by rw [ByteArray.size, this]; rfl)) (by rw [Lib.byteCells_length]; exact Nat.le_refl _) (by rw [Array.length_toList]; show s.size <= _; omega)
  (by
   intro j x hx
   have hplain : (⟨w.heap.size, 0, none⟩ : Addr).add j = ⟨w.heap.size, j, none⟩ := by unfold Addr.add; split <;> simp_all
   rw [hplain, hIs.cell j]
   simp [Lib.byteCells, hx])
 have hlen : s.data.toList.length = s.size := Array.length_toList
 rw [hlen] at hstr
 have hfin : Below w.heap.size w (W.freeze ⟨w.heap.size, 0, none⟩ s.size) := Lib.below_freeze hb (Nat.le_refl _) _
 clear hg2 hIs hW hlen hb
 go_enter Tryz.func120, Tryz.ntmps120
 go_wp2
 go_ret
 exact ⟨rfl, hfin⟩
theorem clone_any (s : ByteArray) (w : World) (h : s.size <= 1000) :
 Calls Tryz.prog 70 #[.string s] w fun e w' => e = .returned (.string s) ∧ Below w.heap.size w w' := by
 go_enter Tryz.func70, Tryz.ntmps70
 go_wp2_with fail
 refine (xM s _ h).mono ?_
 rintro e w1 ⟨rfl, hb⟩
 go_wp2_with fail
 go_ret
 exact ⟨rfl, hb⟩
theorem I7 (b : Nat) (T : TypeId) (s : ByteArray) (p : Nat) (more : List Value) (w : World) (hs : s.size <= maxLen) (hp : s.size <= p) (hI : Is w b T (.string s :: .int .i64 p :: more)) :
 Calls Tryz.prog 131 #[.pointer (some ⟨b, 0, none⟩)] w fun e w' => e = .returned (.tuple #[.int .u8 0, .bool false]) ∧ Is w' b T (.string s :: .int .i64 p :: more) ∧ Turns b w w' := by
 have HE := hide (fun w hI => jh b T s p more w hs hI)
 go_enter Tryz.func131, Tryz.ntmps131
 go_wp2_with fail
 refine (uh HE _ hI).mono ?_
 rintro e w1 ⟨rfl, n1, rfl⟩
 have hd : decide (s.size <= p) = true := by simp; omega
 go_wp2_with fail
 go_ret2
 exact ⟨rfl, hI.drewN _, (Turns.refl _ _).drewN _⟩
theorem xN (b : Nat) (T : TypeId) (s : ByteArray) (p : Nat) (more : List Value) (w : World) (hs : s.size <= maxLen) (hp : p < s.size) (hI : Is w b T (.string s :: .int .i64 p :: more)) :
 Calls Tryz.prog 131 #[.pointer (some ⟨b, 0, none⟩)] w fun e w' => e = .returned (.tuple #[.int .u8 (s[p].toNat : Int), .bool true]) ∧ Is w' b T (.string s :: .int .i64 ((p + 1 : Nat) : Int) :: more) ∧ Turns b w w' := by
 have HE := hide (fun w hI => jh b T s p more w hs hI)
 unfold maxLen at hs
 have c0 : w.cell? ⟨b, 0, none⟩ = some (.string s) := hI.cell 0
 have c1 : w.cell? ⟨b, 1, none⟩ = some (.int .i64 p) := hI.cell 1
 have f1 : w.frozen? ⟨b, 1, none⟩ = false := hI.free 1
 go_enter Tryz.func131, Tryz.ntmps131
 go_wp2_with fail
 refine (uh HE _ hI).mono ?_
 rintro e w1 ⟨rfl, n1, rfl⟩
 have hd : decide (s.size <= p) = false := by simp; omega
 go_wp2_with fail
 go_quiet (fail)
 go_wp2_with fail
 go_ret2
 exact ⟨rfl, (hI.drewN _).set 1 _, ((Turns.refl _ _).drewN _).set 1 _⟩
theorem dL (k s : Int) (w : World) :
 Calls Tryz.prog 85 #[.int .i64 k, .int .i64 s] w fun e w' => e = .returned (.bool (Lk.aC k s)) ∧ w' = w := by
 go_enter Tryz.func85, Tryz.ntmps85
 go_wp2
 all_goals go_ret
 all_goals refine ⟨aH ?_, rfl⟩
 all_goals unfold Lk.aC
 all_goals (repeat' split) <;> first | rfl | omega | (simp_all; done) | (exfalso; simp_all; omega)
theorem dZ (k n : Int) (w : World) :
 Calls Tryz.prog 86 #[.int .i64 k, .int .i64 n] w fun e w' => e = .returned (.bool (Lk.aA k n)) ∧ w' = w := by
 go_enter Tryz.func86, Tryz.ntmps86
 go_wp2
 all_goals go_ret
 all_goals refine ⟨aH ?_, rfl⟩
 all_goals unfold Lk.aA
 all_goals (repeat' split) <;> first | rfl | omega | (simp_all; done) | (exfalso; simp_all; omega) | (simp_all; omega)
theorem jk (k : Int) (w : World) :
 Calls Tryz.prog 132 #[.int .i64 k] w fun e w' => e = .returned (.int .i64 (Lk.jH k)) ∧ w' = w := by
 go_enter Tryz.func132, Tryz.ntmps132
 go_wp2
 all_goals go_ret
 all_goals refine ⟨je ?_, rfl⟩
 all_goals unfold Lk.jH
 all_goals first | (rw [if_pos (by omega)]; done) | (rw [if_neg (by omega)]; done)
theorem I8 {k : Int} (h0 : 0 <= k) (h7 : k <= 7) : k = 0 ∨ k = 1 ∨ k = 2 ∨ k = 3 ∨ k = 4 ∨ k = 5 ∨ k = 6 ∨ k = 7 := by omega
def qm (k : Int) : Int × Int × Int × Int :=
 if k = 0 then (1, 268435455, 0, 64) else if k = 1 then (1, 268435455, 1, 16) else if k = 2 then (1, 268435455, 0, 16) else if k = 3 then (1, 268435455, 1, 4)
 else if k = 4 then (0, 268435455, 1, 4) else if k = 5 then (0, 0, 8, 8) else if k = 6 then (0, 0, 8, 8) else (0, 0, 1, 4)
theorem FY (k : Int) (h0 : 0 <= k) (h7 : k <= 7) (w : World) :
 Calls Tryz.prog 173 #[.int .i64 k] w fun e w' => e = .returned (.agg #[.int .i64 (qm k).1, .int .i64 (qm k).2.1, .int .i64 (qm k).2.2.1, .int .i64 (qm k).2.2.2]) ∧ Below w.heap.size w w' := by
 rcases I8 h0 h7 with rfl | rfl | rfl | rfl | rfl | rfl | rfl | rfl
 all_goals
  rw [qm]
  go_enter Tryz.func173, Tryz.ntmps173
  go_wp2
  refine bodyPost_ret (v := _) (by simp [results, Tryz.results173, go_sem]) rfl ⟨rfl, ?_⟩
  ((repeat' (first | exact Below.refl _ _ | assumption | apply Below.drew | apply Below.alloc | apply Below.setCell)) <;> (simp <;> omega))
def zM (k a b x y : Int) : Prop := qm k = (a, b, x, y)
theorem zN (k : Int) (h0 : 0 <= k) (h7 : k <= 7) (w : World) :
 Calls Tryz.prog 173 #[.int .i64 k] w fun e w' => ∃ a b x y, e = .returned (.agg #[.int .i64 a, .int .i64 b, .int .i64 x, .int .i64 y]) ∧ zM k a b x y ∧ Below w.heap.size w w' := by
 refine (FY k h0 h7 w).mono ?_
 rintro e w' ⟨rfl, hb⟩
 exact ⟨_, _, _, _, rfl, rfl, hb⟩
theorem O9 (b : Nat) (T : TypeId) (s : ByteArray) (p n : Nat) (more : List Value) (w : World) (hs : s.size <= maxLen) (hp : p <= s.size) (hn : s.size < p + n) (hI : Is w b T (.string s :: .int .i64 p :: more)) :
 Calls Tryz.prog 137 #[.pointer (some ⟨b, 0, none⟩), .int .i64 n] w fun e w' => e = .returned (.tuple #[.string ⟨#[]⟩, .bool false]) ∧ Is w' b T (.string s :: .int .i64 (s.size : Int) :: more) ∧ Turns b w w' := by
 unfold maxLen at hs
 have c0 : w.cell? ⟨b, 0, none⟩ = some (.string s) := hI.cell 0
 have c1 : w.cell? ⟨b, 1, none⟩ = some (.int .i64 p) := hI.cell 1
 have f1 : w.frozen? ⟨b, 1, none⟩ = false := hI.free 1
 have hlt : (s.size : Int) - p < n := by omega
 go_enter Tryz.func137, Tryz.ntmps137
 go_wp2_with fail
 go_quiet (fail)
 go_wp2_with fail
 go_ret2
 exact ⟨rfl, (hI.drewN _).set 1 _, ((Turns.refl _ _).drewN _).set 1 _⟩
theorem LK (b : Nat) (T : TypeId) (s : ByteArray) (p n : Nat) (more : List Value) (w : World) (hs : s.size <= maxLen) (hn : p + n <= s.size) (hI : Is w b T (.string s :: .int .i64 p :: more)) :
 Calls Tryz.prog 137 #[.pointer (some ⟨b, 0, none⟩), .int .i64 n] w fun e w' => e = .returned (.tuple #[.string (s.extract p (p + n)), .bool true]) ∧ Is w' b T (.string s :: .int .i64 ((p + n : Nat) : Int) :: more) ∧ Turns b w w' := by
 unfold maxLen at hs
 have c0 : w.cell? ⟨b, 0, none⟩ = some (.string s) := hI.cell 0
 have c1 : w.cell? ⟨b, 1, none⟩ = some (.int .i64 p) := hI.cell 1
 have f1 : w.frozen? ⟨b, 1, none⟩ = false := hI.free 1
 have hlt : ¬ ((s.size : Int) - p < n) := by omega
 have hn' : (p : Int) + n <= s.size := by omega
 go_enter Tryz.func137, Tryz.ntmps137
 go_wp2_with fail
 go_quiet (fail)
 go_wp2_with fail
 go_quiet (fail)
 go_wp2_with fail
 go_ret2
 exact ⟨rfl, (hI.drewN _).set 1 _, ((Turns.refl _ _).drewN _).set 1 _⟩
theorem qW (b : Nat) (T : TypeId) (s : ByteArray) (p : Nat) (more : List Value) (w : World) (hs : s.size <= maxLen) (hI : Is w b T (.string s :: .int .i64 p :: more)) :
 Calls Tryz.prog 134 #[.pointer (some ⟨b, 0, none⟩)] w fun e w' => e = .returned (.int .i64 (if s.size <= p then 0 else 2)) ∧ ∃ n, w' = w.drewN n := by
 have HE := hide (fun w hI => jh b T s p more w hs hI)
 by_cases h : s.size <= p
 . have hd : decide (s.size <= p) = true := by simp; omega
   rw [if_pos h]
   go_enter Tryz.func134, Tryz.ntmps134
   go_wp2_with fail
   refine (uh HE _ hI).mono ?_
   rintro e w1 ⟨rfl, n1, rfl⟩
   go_wp2_with fail
   go_ret
   exact ⟨rfl, _, rfl⟩
 . have hd : decide (s.size <= p) = false := by simp; omega
   rw [if_neg h]
   go_enter Tryz.func134, Tryz.ntmps134
   go_wp2_with fail
   refine (uh HE _ hI).mono ?_
   rintro e w1 ⟨rfl, n1, rfl⟩
   go_wp2_with fail
   go_ret
   exact ⟨rfl, _, rfl⟩
theorem Turns.I9 {b : Nat} {w w1 : World} (h : Turns b w w1) {a : Addr} (ha : w.heap.size <= a.block) (v : Value) : Turns b w (w1.setCell a v) :=
 ⟨h.os, h.tape, h.output, by simpa using h.size, fun k hk hn => (heap_setCell_other _ _ _ _ (by omega)).trans (h.block k hk hn)⟩
theorem Pe {T : TypeId} {more : List Value} (b : Nat) (s : ByteArray) (p q : Nat) (f : Int) (w : World) (_hs : s.size <= maxLen) (hq : q <= s.size) (hr : s.size - q <= 1000)
 (hI : Is w b T (.string s :: .int .i64 p :: .int .i64 f :: more)) :
 Calls Tryz.prog 89 #[.pointer (some ⟨b, 0, none⟩), .int .i64 q, .int .i64 0] w fun e w' =>
  e = .returned (.tuple #[]) ∧ Is w' b T (.string (s.extract q s.size) :: .int .i64 0 :: .int .i64 0 :: more) ∧ Turns b w w' := by
 unfold maxLen at _hs
 have HC := hide (fun w => clone_any (s.extract q s.size) w (by rw [ByteArray.size_extract]; omega))
 have c0 : w.cell? ⟨b, 0, none⟩ = some (.string s) := hI.cell 0
 have hq' : (q : Int) <= s.size := by omega
 go_enter Tryz.func89, Tryz.ntmps89
 go_wp2_with fail
 refine (uh HC _).mono ?_
 rintro e w1 ⟨rfl, hb⟩
 have hI1 := hI.below hb hI.lt
 have hT1 := (Turns.refl b w).below hb
 have d0 := hI1.cell 0
 have d1 := hI1.cell 1
 have d2 := hI1.cell 2
 have f0 := hI1.free 0
 have f1 := hI1.free 1
 have f2 := hI1.free 2
 simp only [List.getElem?_cons_zero, List.getElem?_cons_succ] at d0 d1 d2
 clear hb hI c0
 go_wp2_with fail
 go_end0
 exact ⟨rfl, ((hI1.set 0 _).set 1 _).set 2 _, ((hT1.set 0 _).set 1 _).set 2 _⟩
theorem LM {T : TypeId} {more : List Value} (b : Nat) (s : ByteArray) (p q : Nat) (f e0 : Int) (w : World) (he : e0 ≠ 0)
 (hI : Is w b T (.string s :: .int .i64 p :: .int .i64 f :: more)) :
 Calls Tryz.prog 89 #[.pointer (some ⟨b, 0, none⟩), .int .i64 q, .int .i64 e0] w fun e w' =>
  e = .returned (.tuple #[]) ∧ Is w' b T (.string ⟨#[]⟩ :: .int .i64 0 :: .int .i64 e0 :: more) ∧ Turns b w w' := by
 have he' : (e0 == 0) = false := by simpa using he
 have d0 := hI.cell 0
 have d1 := hI.cell 1
 have d2 := hI.cell 2
 have f0 := hI.free 0
 have f1 := hI.free 1
 have f2 := hI.free 2
 simp only [List.getElem?_cons_zero, List.getElem?_cons_succ] at d0 d1 d2
 clear he
 go_enter Tryz.func89, Tryz.ntmps89
 go_wp2_with fail
 go_end0
 exact ⟨rfl, ((hI.set 0 _).set 1 _).set 2 _, (((Turns.refl _ _).set 0 _).set 1 _).set 2 _⟩
theorem gZ (a b n : Int) (w : World) :
 Calls Tryz.prog 128 #[.agg #[.int .i64 a, .int .i64 b], .int .i64 n] w fun e w' => e = .returned (.bool (decide (a <= n ∧ n <= b))) ∧ Below w.heap.size w w' := by
 go_enter Tryz.func128, Tryz.ntmps128
 go_wp2
 all_goals go_ret
 all_goals refine ⟨aH ?_, ?_⟩
 all_goals first | ((repeat' (first | exact Below.refl _ _ | assumption | apply Below.drew | apply Below.alloc | apply Below.setCell)) <;> (simp <;> omega)) | (simp_all; done)
theorem BX (a b x y : Int) (w : World) : (Instr.field 275 (.agg #[.int .i64 a, .int .i64 b, .int .i64 x, .int .i64 y]) 0).run Tryz.prog w = .ok (.agg #[.int .i64 a, .int .i64 b]) w := by kernel_rfl
theorem BZ (a b x y : Int) (w : World) : (Instr.field 275 (.agg #[.int .i64 a, .int .i64 b, .int .i64 x, .int .i64 y]) 1).run Tryz.prog w = .ok (.agg #[.int .i64 x, .int .i64 y]) w := by kernel_rfl
theorem Ja {k a b x y s : Int} (h : zM k a b x y) (h0 : 0 <= k) (h7 : k <= 7) (hs0 : 0 <= s) (hs : s <= 268435455) : Lk.aC k s = decide (a <= s ∧ s <= b) := by
 unfold zM qm at h
 unfold Lk.aC
 rcases I8 h0 h7 with rfl | rfl | rfl | rfl | rfl | rfl | rfl | rfl <;> simp at h <;> obtain ⟨rfl, rfl, -, -⟩ := h <;> rw [Bool.eq_iff_iff] <;> simp <;> omega
theorem Jb {k a b x y n : Int} (h : zM k a b x y) (h0 : 0 <= k) (h7 : k <= 7) (hs0 : 0 <= n) (hs : n <= 64) : Lk.aA k n = decide (x <= n ∧ n <= y) := by
 unfold zM qm at h
 unfold Lk.aA
 rcases I8 h0 h7 with rfl | rfl | rfl | rfl | rfl | rfl | rfl | rfl <;> simp at h <;> obtain ⟨-, -, rfl, rfl⟩ := h <;> rw [Bool.eq_iff_iff] <;> simp <;> omega
theorem nT (k s : Int) (h0 : 0 <= k) (h7 : k <= 7) (hs0 : 0 <= s) (hs : s <= 268435455) (w : World) :
 Calls Tryz.prog 135 #[.int .i64 k, .int .i64 s] w fun e w' => e = .returned (.int .i64 (Lk.fM k s)) ∧ Below w.heap.size w w' := by
 have f0 := BX
 go_enter Tryz.func135, Tryz.ntmps135
 go_wp2_with fail
 refine (zN k h0 h7 _).mono ?_
 rintro e w1 ⟨a, b, x, y, rfl, H, hb1⟩
 go_wp2_with fail
 refine (gZ _ _ _ _).mono ?_
 rintro e w2 ⟨rfl, hb2⟩
 have hb := hb1.trans (hb2.mono hb1.size)
 have HS := hide (Ja H h0 h7 hs0 hs)
 generalize decide (a <= s ∧ s <= b) = d at *
 cases d
 all_goals
  go_wp2_with fail
  go_ret
  exact ⟨je (by rw [Lk.fM, uh HS]; rfl), hb⟩
theorem nU (k n : Int) (h0 : 0 <= k) (h7 : k <= 7) (hn0 : 0 <= n) (w : World) :
 Calls Tryz.prog 136 #[.int .i64 k, .int .i64 n] w fun e w' => e = .returned (.int .i64 (Lk.dF k n)) ∧ Below w.heap.size w w' := by
 by_cases hn : 64 < n
 . go_enter Tryz.func136, Tryz.ntmps136
   go_wp2_with fail
   go_ret
   exact ⟨je (by rw [Lk.dF, if_pos hn]), Below.refl _ _⟩
 have f0 := BZ
 go_enter Tryz.func136, Tryz.ntmps136
 go_wp2_with fail
 refine (zN k h0 h7 _).mono ?_
 rintro e w1 ⟨a, b, x, y, rfl, H, hb1⟩
 go_wp2_with fail
 refine (gZ _ _ _ _).mono ?_
 rintro e w2 ⟨rfl, hb2⟩
 have hb := hb1.trans (hb2.mono hb1.size)
 have HS := hide (Jb H h0 h7 hn0 (by omega))
 generalize decide (x <= n ∧ n <= y) = d at *
 cases d
 all_goals
  go_wp2_with fail
  go_ret
  exact ⟨je (by rw [Lk.dF, if_neg (by omega), uh HS]; rfl), hb⟩
namespace Lk
def Rd.next (i : Nat) : Rd -> Int | .ok _ k => ((i + k : Nat) : Int) | _ => 0
def Rd.jQ (i : Nat) : Rd -> Int | .bad k => ((i + k : Nat) : Int) | _ => -1
def Rd.gq : Rd -> Bool | .short => true | _ => false
end Lk
def Jc (s : ByteArray) (i t acc B : Nat) : Prop := B = 128 ^ t ∧ dK s i t (i + t) acc
theorem gG (c : UInt8) : wrap64 (c.toNat : Int) = c.toNat := wrap64_small _ (by have := ni c; omega)
theorem LP (a b : Nat) : ((a : Int).tmod b) = ((a % b : Nat) : Int) := by simp [Int.tmod]
theorem qX {s : ByteArray} {i t acc B : Nat} (h : Jc s i t acc B) (ht : t < 4) (c : UInt8) :
 wrap64 ((acc : Int) + wrap64 ((wrap64 (c.toNat : Int)).tmod 128 * (B : Int))) = ((acc + c.toNat % 128 * 128 ^ t : Nat) : Int) ∧ wrap64 (128 * (B : Int)) = ((128 ^ (t + 1) : Nat) : Int) := by
 obtain ⟨rfl, h⟩ := h
 have hacc := h.2.2.2.1
 have hc := ni c
 rw [gG, show (128 : Int) = ((128 : Nat) : Int) from rfl, LP]
 have hx : c.toNat % 128 < 128 := by omega
 generalize c.toNat % 128 = x at *
 rcases (by omega : t = 0 ∨ t = 1 ∨ t = 2 ∨ t = 3) with rfl | rfl | rfl | rfl
 all_goals
  have e : ∀ y : Nat, y < 2 ^ 62 -> wrap64 (y : Int) = y := wrap64_small
  refine ⟨?_, ?_⟩
  . rw [<- Int.natCast_mul, e _ (by omega), <- Int.natCast_add, e _ (by omega)]
  . rw [<- Int.natCast_mul, e _ (by omega)]
theorem dK.Pg {s : ByteArray} {p t q acc : Nat} {r : Lk.Rd} (h : dK s p t q acc) (hr : Hid (Lk.rd 0 0 (s.data.toList.drop p) = r)) (hlt : ¬ q < s.size) : r = .short := by
 obtain ⟨rfl, h1, h2, h3, h4⟩ := h
 rw [<- uh hr, <- h4, drop_end s _ (by omega), Lk.Og]
theorem dK.Q7 {s : ByteArray} {p t q acc : Nat} {r : Lk.Rd} (h : dK s p t q acc) (hr : Hid (Lk.rd 0 0 (s.data.toList.drop p) = r)) (hlt : q < s.size) (hb : t = 4 ∨ (0 < t ∧ s[q].toNat = 0)) : r = .bad t := by
 obtain ⟨rfl, h1, h2, h3, h4⟩ := h
 rw [<- uh hr, <- h4, drop_cons s _ hlt, Lk.Oh _ _ _ _ (hb.imp id fun ⟨a, b⟩ => ⟨a, byte_zero b⟩)]
theorem dK.Oj {s : ByteArray} {p t q acc : Nat} {r : Lk.Rd} (h : dK s p t q acc) (hr : Hid (Lk.rd 0 0 (s.data.toList.drop p) = r)) (hlt : q < s.size) (ht : t < 4) (h0 : ¬ (0 < t ∧ s[q].toNat = 0)) (hc : s[q].toNat <= 127) :
 r = .ok (acc + s[q].toNat % 128 * 128 ^ t) (t + 1) := by
 obtain ⟨rfl, h1, h2, h3, h4⟩ := h
 rw [<- uh hr, <- h4, drop_cons s _ hlt, Lk.IA _ _ _ _ (by rintro (h | ⟨h, h'⟩) <;> first | omega | exact h0 ⟨h, by rw [h']; rfl⟩) (by omega)]
theorem nV {a n b a' n' b' : Int} {x x' : Bool} (h1 : a = a') (h2 : n = n') (h3 : b = b') (h4 : x = x') :
 Ending.returned (.agg #[.int .i64 a, .int .i64 n, .int .i64 b, .bool x]) = .returned (.agg #[.int .i64 a', .int .i64 n', .int .i64 b', .bool x']) := by rw [h1, h2, h3, h4]
theorem kz (s : ByteArray) (i : Nat) (w : World) (hs : s.size <= 2 ^ 62) (hi : i <= s.size) :
 Calls Tryz.prog 84 #[.string s, .int .i64 i] w fun e w' =>
  e = .returned (.agg #[.int .i64 (Lk.rd 0 0 (s.data.toList.drop i)).val, .int .i64 ((Lk.rd 0 0 (s.data.toList.drop i)).next i), .int .i64 ((Lk.rd 0 0 (s.data.toList.drop i)).jQ i), .bool (Lk.rd 0 0 (s.data.toList.drop i)).gq])
  ∧ Below w.heap.size w w' := by
 generalize hr : Lk.rd 0 0 (s.data.toList.drop i) = r
 have HR := hide hr
 clear hr
 go_enter Tryz.func84, Tryz.ntmps84
 go_wp2
 go_loopw [5, 6, 7] (fun n by_ k wr => ∃ t acc B : Nat, k = .int .i64 t ∧ n = .int .i64 acc ∧ by_ = .int .i64 B ∧ Jc s i t acc B ∧ wr = w.alloc (.cells #[.int .i64 0, .int .i64 0, .int .i64 0, .bool false] 187)) (fun _ _ k _ => 5 - (intOf k).toNat)
 case atStart => exact ⟨0, 0, 1, rfl, rfl, rfl, ⟨rfl, dK.start s i hi⟩, rfl⟩
 case round =>
  obtain ⟨t, acc, B, rfl, rfl, rfl, HH, rfl⟩ := hrel
  have ht : t <= 4 := HH.2.2.1
  have hti : i + t <= s.size := HH.2.2.2.1
  by_cases hlt : i + t < s.size
  . have hlt' : (i : Int) + t < s.size := by omega
    have hw := gG s[i + t]
    have HW := hide hw
    clear hw
    go_wp2
    . have h3 : (t : Int) = 4 := by assumption
      have e := HH.2.Q7 HR hlt (Or.inl (by omega))
      subst e
      exact bodyPost_ret (v := .agg #[.int .i64 0, .int .i64 0, .int .i64 ((i : Int) + 4), .bool false]) (by simp [results, Tryz.results84, go_sem]) rfl ⟨nV rfl rfl (by simp [Lk.Rd.jQ]; omega) rfl, (Below.refl _ _).alloc (Nat.le_refl _) _⟩
    . have h4 : ((t : Int) == 4) = true ∨ (wrap64 (s[i + t].toNat : Int) == 0) = true := by assumption
      have h3 : ¬ (t : Int) = 4 := by assumption
      have h2 : 0 < t := by assumption
      rw [uh HW] at h4
      have e := HH.2.Q7 HR hlt (Or.inr ⟨h2, by simp at h4; omega⟩)
      subst e
      exact bodyPost_ret (v := .agg #[.int .i64 0, .int .i64 0, .int .i64 ((i : Int) + t), .bool false]) (by simp [results, Tryz.results84, go_sem]) rfl ⟨nV rfl rfl (by simp [Lk.Rd.jQ]) rfl, (Below.refl _ _).alloc (Nat.le_refl _) _⟩
    . have h4 : ((t : Int) == 4) = false ∧ (wrap64 (s[i + t].toNat : Int) == 0) = false := by assumption
      have h5 : wrap64 (s[i + t].toNat : Int) < 128 := by assumption
      have h6 : ¬ (t : Int) = 4 := by assumption
      rw [uh HW] at h4 h5
      simp at h4
      have e := HH.2.Oj HR hlt (by omega) (by omega) (by omega)
      have g := (qX HH (by omega) s[i + t]).1
      subst e
      exact bodyPost_ret (v := .agg #[.int .i64 (wrap64 ((acc : Int) + wrap64 ((wrap64 (s[i + t].toNat : Int)).tmod 128 * (B : Int)))), .int .i64 ((i : Int) + t + 1), .int .i64 (-1), .bool false]) (by simp [results, Tryz.results84, go_sem]) rfl ⟨nV g (by simp [Lk.Rd.next]; omega) rfl rfl, (Below.refl _ _).alloc (Nat.le_refl _) _⟩
    . have h4 : ((t : Int) == 4) = false ∧ (wrap64 (s[i + t].toNat : Int) == 0) = false := by assumption
      have h5 : 128 <= wrap64 (s[i + t].toNat : Int) := by assumption
      have h6 : ¬ (t : Int) = 4 := by assumption
      rw [uh HW] at h4 h5
      simp at h4
      have g := qX HH (by omega) s[i + t]
      have hn := HH.2.next hlt (by omega) (by omega) (by omega)
      go_roundw
      case rel => exact ⟨t + 1, _, _, by go_num, by rw [g.1], by rw [g.2], ⟨rfl, by rw [<- Nat.add_assoc]; exact hn⟩, by first | rfl | trivial⟩
      case measure => simp [intOf]; omega
    . have h5 : wrap64 (s[i + t].toNat : Int) < 128 := by assumption
      have h6 : ¬ 0 < t := by assumption
      rw [uh HW] at h5
      have e := HH.2.Oj HR hlt (by omega) (by omega) (by omega)
      have g := (qX HH (by omega) s[i + t]).1
      subst e
      exact bodyPost_ret (v := .agg #[.int .i64 (wrap64 ((acc : Int) + wrap64 ((wrap64 (s[i + t].toNat : Int)).tmod 128 * (B : Int)))), .int .i64 ((i : Int) + t + 1), .int .i64 (-1), .bool false]) (by simp [results, Tryz.results84, go_sem]) rfl ⟨nV g (by simp [Lk.Rd.next]; omega) rfl rfl, (Below.refl _ _).alloc (Nat.le_refl _) _⟩
    . have h5 : 128 <= wrap64 (s[i + t].toNat : Int) := by assumption
      have h6 : ¬ 0 < t := by assumption
      rw [uh HW] at h5
      have g := qX HH (by omega) s[i + t]
      have hn := HH.2.next hlt (by omega) (by omega) (by omega)
      go_roundw
      case rel => exact ⟨t + 1, _, _, by go_num, by rw [g.1], by rw [g.2], ⟨rfl, by rw [<- Nat.add_assoc]; exact hn⟩, by first | rfl | trivial⟩
      case measure => simp [intOf]; omega
  . have hlt' : ¬ ((i : Int) + t < s.size) := by omega
    go_wp2
    have e := HH.2.Pg HR hlt
    subst e
    refine bodyPost_ret (v := .agg #[.int .i64 0, .int .i64 0, .int .i64 (-1), .bool true]) (by simp [results, Tryz.results84, go_sem]) rfl ⟨rfl, (Below.refl _ _).alloc (Nat.le_refl _) _⟩
open Go.RowKit
theorem FZ (l : Lk.Bs) : Lk.eG l = ((Lk.rd 0 0 l).good && decide (l.length <= (Lk.rd 0 0 l).at 0 l.length)) := by
 unfold Lk.eG
 cases h : Lk.rd 0 0 l with
 | short => rfl
 | bad k => rfl
 | ok n k =>
   have := Lk.bn l 0 0 n k h
   simp only [Lk.Rd.good, Lk.Rd.at, Bool.true_and]
   rw [Bool.eq_iff_iff]
   simp
   omega
theorem Cb (l : Lk.Bs) : Lk.eG l = (decide ((Lk.rd 0 0 l).jQ 0 < 0) && (!(Lk.rd 0 0 l).gq && decide ((Lk.rd 0 0 l).next 0 = (l.length : Int)))) := by
 unfold Lk.eG
 cases h : Lk.rd 0 0 l with
 | short => rfl
 | bad k =>
   have hb : ¬ ((Lk.Rd.bad k).jQ 0 < 0) := by simp only [Lk.Rd.jQ]; omega
   rw [decide_eq_false hb]; rfl
 | ok n k =>
   rw [Bool.eq_iff_iff]
   simp [Lk.Rd.jQ, Lk.Rd.gq, Lk.Rd.next]
   omega
theorem uO (k : Int) (s : ByteArray) (w : World) (hs : s.size <= maxLen) (hk : k = 3 ∨ k = 4 ∨ k = 7) :
 Calls Tryz.prog 138 #[.int .i64 k, .string s] w fun e w' => e = .returned (.int .i64 (Lk.bP k s.data.toList)) ∧ Below w.heap.size w w' := by
 have HN := hide (fun b T w hI => iZ b T s 0 [] w hs (Nat.zero_le _) hI)
 have HE := hide (fun b T p w hI => jh b T s p [] w hs hI)
 have hg := FZ s.data.toList
 rw [<- af] at hg
 have hpe : Lk.bP k s.data.toList = if Lk.eG s.data.toList = false then 6 else 0 := by
  unfold Lk.bP Lk.ay
  rw [if_pos hk]
 rw [hg] at hpe
 clear hg
 generalize Lk.bP k s.data.toList = pe at *
 generalize hr : Lk.rd 0 0 s.data.toList = r at *
 have HG := hide hpe
 have HR := hide hr
 clear hr hpe
 rcases hk with rfl | rfl | rfl
 all_goals
  go_enter Tryz.func138, Tryz.ntmps138
  go_wp2_with fail
  refine (uh HN _ 83 _ (Is.new w 83 [.string s, .int .i64 0])).mono ?_
  rw [List.drop_zero, uh HR]
  rintro e w1 ⟨rfl, hI, hT⟩
  have hb1 : Below w.heap.size w w1 := hT.toBelow ((Below.refl _ _).alloc (Nat.le_refl _) _) (Nat.le_refl _) (by simp)
  generalize r.val = v
  generalize hp : Lk.Rd.at 0 s.size r = p at *
  generalize hg : r.good = g
  have HGD := hide hg
  clear hp hg
  cases g
  . go_wp2_with fail
    go_ret
    exact ⟨je (by rw [uh HG, uh HGD]; rfl), hb1⟩
  . go_wp2_with fail
    refine (uh HE _ _ _ _ hI).mono ?_
    rintro e w2 ⟨rfl, n2, rfl⟩
    generalize hd : decide (s.size <= p) = d
    have HD := hide hd
    clear hd
    cases d
    all_goals
     go_wp2_with fail
     go_ret
     exact ⟨je (by rw [uh HG, uh HGD, uh HD]; rfl), Below.drewN hb1 _⟩
theorem xO (k : Int) (s : ByteArray) (w : World) (hk : ¬ (k = 3 ∨ k = 4 ∨ k = 7)) :
 Calls Tryz.prog 138 #[.int .i64 k, .string s] w fun e w' => e = .returned (.int .i64 (Lk.bP k s.data.toList)) ∧ Below w.heap.size w w' := by
 have hpe : Lk.bP k s.data.toList = 0 := by
  unfold Lk.bP Lk.ay
  rw [if_neg hk]; rfl
 rw [hpe]
 have h3 : (k == 3) = false := by simp; omega
 have h4 : (k == 4) = false := by simp; omega
 have h7 : (k == 7) = false := by simp; omega
 clear hpe hk
 go_enter Tryz.func138, Tryz.ntmps138
 go_wp2_with fail
 go_ret
 exact ⟨rfl, Below.refl _ _⟩
theorem mM (k : Int) (s : ByteArray) (w : World) (hs : s.size <= maxLen) :
 Calls Tryz.prog 138 #[.int .i64 k, .string s] w fun e w' => e = .returned (.int .i64 (Lk.bP k s.data.toList)) ∧ Below w.heap.size w w' := by
 by_cases hk : k = 3 ∨ k = 4 ∨ k = 7
 . exact uO k s w hs hk
 . exact xO k s w hk
theorem sF (k : Int) (s : ByteArray) (w : World) (hs : s.size <= 2 ^ 62) (hk : k = 3 ∨ k = 4 ∨ k = 7) :
 Calls Tryz.prog 87 #[.int .i64 k, .string s] w fun e w' => e = .returned (.bool (Lk.ay k s.data.toList)) ∧ Below w.heap.size w w' := by
 have HN := hide (fun w => kz s 0 w hs (Nat.zero_le _))
 have hg := Cb s.data.toList
 rw [<- af] at hg
 have hpe : Lk.ay k s.data.toList = Lk.eG s.data.toList := by
  unfold Lk.ay
  rw [if_pos hk]
 rw [hg] at hpe
 clear hg
 generalize Lk.ay k s.data.toList = pe at *
 generalize hr : Lk.rd 0 0 s.data.toList = r at *
 have HG := hide hpe
 have HR := hide hr
 clear hr hpe
 rcases hk with rfl | rfl | rfl
 all_goals
  go_enter Tryz.func87, Tryz.ntmps87
  go_wp2_with fail
  refine (uh HN _).mono ?_
  rw [List.drop_zero, uh HR]
  rintro e w1 ⟨rfl, hb1⟩
  generalize r.val = v
  generalize hx : r.jQ 0 = x at *
  generalize hy : r.next 0 = y at *
  generalize hz : r.gq = z at *
  clear hx hy hz
  by_cases hx : x < 0
  . cases z
    . by_cases hyy : y = (s.size : Int)
      . have hyb : (y == (s.size : Int)) = true := by simpa using hyy
        have H := hide (decide_eq_true hyy)
        clear hyy
        go_wp2_with fail
        go_ret
        exact ⟨aH (by rw [uh HG, uh H, decide_eq_true hx]; simp), hb1.alloc hb1.size _⟩
      . have hyb : (y == (s.size : Int)) = false := by simpa using hyy
        have H := hide (decide_eq_false hyy)
        clear hyy
        go_wp2_with fail
        go_ret
        exact ⟨aH (by rw [uh HG, uh H, decide_eq_true hx]; simp), hb1.alloc hb1.size _⟩
    . go_wp2_with fail
      go_ret
      exact ⟨aH (by rw [uh HG]; simp), hb1.alloc hb1.size _⟩
  . have H := hide (decide_eq_false hx)
    go_wp2_with fail
    go_ret
    exact ⟨aH (by rw [uh HG, uh H]; simp), hb1.alloc hb1.size _⟩
theorem uP (k : Int) (s : ByteArray) (w : World) (hk : ¬ (k = 3 ∨ k = 4 ∨ k = 7)) :
 Calls Tryz.prog 87 #[.int .i64 k, .string s] w fun e w' => e = .returned (.bool (Lk.ay k s.data.toList)) ∧ Below w.heap.size w w' := by
 have hpe : Lk.ay k s.data.toList = true := by
  unfold Lk.ay
  rw [if_neg hk]
 rw [hpe]
 have h3 : (k != 3) = true := by rw [bne_iff_ne]; omega
 have h4 : (k != 4) = true := by rw [bne_iff_ne]; omega
 have h7 : (k != 7) = true := by rw [bne_iff_ne]; omega
 clear hpe hk
 go_enter Tryz.func87, Tryz.ntmps87
 go_wp2_with fail
 go_ret
 exact ⟨rfl, Below.refl _ _⟩
theorem jl (k : Int) (s : ByteArray) (w : World) (hs : s.size <= 2 ^ 62) :
 Calls Tryz.prog 87 #[.int .i64 k, .string s] w fun e w' => e = .returned (.bool (Lk.ay k s.data.toList)) ∧ Below w.heap.size w w' := by
 by_cases hk : k = 3 ∨ k = 4 ∨ k = 7
 . exact sF k s w hs hk
 . exact uP k s w hk
end Go.Proofs.YtbkpdapagfjmmaaGreatDoor
