import Derived.Test.YtbkpdapagfjmmaaGreatDoorMSpec17FL
import Derived.Test.YtbkpdapagfjmmaaGreatDoorMPVPW
import Derived.Test.YtbkpdapagfjmmaaGreatDoorProg
import Derived.Test.YtbkpdapagfjmmaaGreatDoorMSpecSpec3
import Derived.Test.YtbkpdapagfjmmaaGreatDoorMSpec5W0
import Derived.Test.YtbkpdapagfjmmaaGreatDoorMFAO1
import Derived.Test.YtbkpdapagfjmmaaGreatDoorMPTH1
/-
  Walks: the calls of an end, be it down or not.
-/
namespace Go.Proofs.YtbkpdapagfjmmaaGreatDoor
open Go.RowKit
namespace Lk
theorem En.back_down (e : En) (n : Nat) : (e.back n).down = e.down := by unfold En.back; split <;> rfl
theorem En.pingC_down (e : En) (t : Bs) : (e.pingC t).2.down = e.down := by unfold En.pingC; split <;> (try split) <;> rfl
theorem En.byeC_down (e : En) : e.byeC'.2.down = e.down := by unfold En.byeC'; split <;> (try split) <;> rfl
theorem En.submitC_down (e : En) (l : List Hd) (t : Bs) : (e.submitC l t).2.down = e.down := by
  unfold En.submitC
  split
  · rfl
  · split
    · rfl
    · split
      · rfl
      · split
        · rfl
        · split <;> rfl
theorem En.consumeC_down (e : En) (k n : Int) : (e.consumeC k n).2.down = e.down := by
  unfold En.consumeC
  split
  · rfl
  · split
    · rfl
    · split
      · rfl
      · split
        · rfl
        · split
          · rfl
          · simp only
            split <;> rfl
theorem En.resetC_down (e : En) (k n : Int) : (e.resetC k n).2.down = e.down := by
  unfold En.resetC
  split
  · rfl
  · split
    · rfl
    · split
      · rfl
      · split
        · simp only
          rw [En.back_down]
          rfl
        · rfl
end Lk
theorem Fallen.c2 {w : World} {b : Nat} {e : Lk.En} {d : PD} (h : Fallen w b e d) : w.cell? ⟨b, 2, .none⟩ = some (.int .i64 (e.down : Int)) := h.rw.blk.cell 2
theorem dn_bool {n : Nat} (h : n ≠ 0) : ((n : Int) != 0) = true := by simp; omega

theorem ping_dn (b : Nat) (n : Nat) (t : Value) (w : World) (hb : b < w.heap.size) (c2 : w.cell? ⟨b, 2, none⟩ = some (.int .i64 (n : Int))) (hn : n ≠ 0) :
    Calls Tryz.prog 33 #[.pointer (some ⟨b, 0, none⟩), t] w fun r w' => r = .returned (.int .i64 13) ∧ w' = w := by
  have HD := hide (down_any b n w hb c2)
  rw [dn_bool hn] at HD
  clear hn
  go_enter Tryz.func33, Tryz.ntmps33
  go_wp2_with fail
  refine (unhide HD).mono ?_
  rintro r w1 ⟨rfl, rfl⟩
  go_wp2_with fail
  go_ret
  exact ⟨rfl, rfl⟩
theorem bye_dn (b : Nat) (n : Nat) (w : World) (hb : b < w.heap.size) (c2 : w.cell? ⟨b, 2, none⟩ = some (.int .i64 (n : Int))) (hn : n ≠ 0) :
    Calls Tryz.prog 34 #[.pointer (some ⟨b, 0, none⟩)] w fun r w' => r = .returned (.int .i64 13) ∧ w' = w := by
  have HD := hide (down_any b n w hb c2)
  rw [dn_bool hn] at HD
  clear hn
  go_enter Tryz.func34, Tryz.ntmps34
  go_wp2_with fail
  refine (unhide HD).mono ?_
  rintro r w1 ⟨rfl, rfl⟩
  go_wp2_with fail
  go_ret
  exact ⟨rfl, rfl⟩
theorem consume_dn (b : Nat) (n : Nat) (k m : Int) (w : World) (hb : b < w.heap.size) (c2 : w.cell? ⟨b, 2, none⟩ = some (.int .i64 (n : Int))) (hn : n ≠ 0) :
    Calls Tryz.prog 31 #[.pointer (some ⟨b, 0, none⟩), .int .i64 k, .int .i64 m] w fun r w' => r = .returned (.int .i64 13) ∧ w' = w := by
  have HD := hide (down_any b n w hb c2)
  rw [dn_bool hn] at HD
  clear hn
  go_enter Tryz.func31, Tryz.ntmps31
  go_wp2_with fail
  refine (unhide HD).mono ?_
  rintro r w1 ⟨rfl, rfl⟩
  go_wp2_with fail
  go_ret
  exact ⟨rfl, rfl⟩
theorem reset_dn (b : Nat) (n : Nat) (k m : Int) (w : World) (hb : b < w.heap.size) (c2 : w.cell? ⟨b, 2, none⟩ = some (.int .i64 (n : Int))) (hn : n ≠ 0) :
    Calls Tryz.prog 69 #[.pointer (some ⟨b, 0, none⟩), .int .i64 k, .int .i64 m] w fun r w' => r = .returned (.int .i64 13) ∧ w' = w := by
  have HD := hide (down_any b n w hb c2)
  rw [dn_bool hn] at HD
  clear hn
  go_enter Tryz.func69, Tryz.ntmps69
  go_wp2_with fail
  refine (unhide HD).mono ?_
  rintro r w1 ⟨rfl, rfl⟩
  go_wp2_with fail
  go_ret
  exact ⟨rfl, rfl⟩
theorem submit_dn (b : Nat) (n : Nat) (lv body : Value) (w : World) (hb : b < w.heap.size) (c2 : w.cell? ⟨b, 2, none⟩ = some (.int .i64 (n : Int))) (hn : n ≠ 0) :
    Calls Tryz.prog 19 #[.pointer (some ⟨b, 0, none⟩), lv, body] w fun r w' => r = .returned (.tuple #[.int .i64 0, .int .i64 13, .int .i64 0]) ∧ w' = w := by
  have HD := hide (down_any b n w hb c2)
  rw [dn_bool hn] at HD
  clear hn
  go_enter Tryz.func19, Tryz.ntmps19
  go_wp2_with fail
  refine (unhide HD).mono ?_
  rintro r w1 ⟨rfl, rfl⟩
  go_wp2_with fail
  go_ret3
  exact ⟨rfl, rfl⟩

theorem ping_p (b : Nat) (e : Lk.En) (d : PD) (t : ByteArray) (w : World) (hL : PEnd w b e d) :
    Calls Tryz.prog 33 #[.pointer (some ⟨b, 0, none⟩), .string t] w fun r w' => r = .returned (.int .i64 ((e.pingC t.data.toList).1 : Int)) ∧ PPost w b d (e.pingC t.data.toList).2 w' := by
  rcases hL with ⟨hL, hdn⟩ | hL
  · exact (ping_any b e d t w hL hdn).mono fun r w' h => ⟨h.1, h.2.toP ((Lk.En.pingC_down _ _).trans hdn)⟩
  · have : e.pingC t.data.toList = (13, e) := by unfold Lk.En.pingC; rw [if_pos hL.dn]
    rw [this]
    exact (ping_dn b e.down _ w hL.rw.lt hL.c2 hL.dn).mono fun r w' h => ⟨h.1, by rw [h.2]; exact PPost.same (.inr hL)⟩
theorem bye_p (b : Nat) (e : Lk.En) (d : PD) (w : World) (hL : PEnd w b e d) :
    Calls Tryz.prog 34 #[.pointer (some ⟨b, 0, none⟩)] w fun r w' => r = .returned (.int .i64 (e.byeC'.1 : Int)) ∧ PPost w b d e.byeC'.2 w' := by
  rcases hL with ⟨hL, hdn⟩ | hL
  · exact (bye_any b e d w hL hdn).mono fun r w' h => ⟨h.1, h.2.toP ((Lk.En.byeC_down _).trans hdn)⟩
  · have : e.byeC' = (13, e) := by unfold Lk.En.byeC'; rw [if_pos hL.dn]
    rw [this]
    exact (bye_dn b e.down w hL.rw.lt hL.c2 hL.dn).mono fun r w' h => ⟨h.1, by rw [h.2]; exact PPost.same (.inr hL)⟩
theorem consume_p (b : Nat) (e : Lk.En) (d : PD) (k n : Int) (w : World) (hL : PEnd w b e d) (hk : I64 k) :
    Calls Tryz.prog 31 #[.pointer (some ⟨b, 0, none⟩), .int .i64 k, .int .i64 n] w fun r w' => r = .returned (.int .i64 ((e.consumeC k n).1 : Int)) ∧ PPost w b d (e.consumeC k n).2 w' := by
  rcases hL with ⟨hL, hdn⟩ | hL
  · exact (consume_any b e d k n w hL hdn hk).mono fun r w' h => ⟨h.1, h.2.toP ((Lk.En.consumeC_down _ _ _).trans hdn)⟩
  · have : e.consumeC k n = (13, e) := by unfold Lk.En.consumeC; rw [if_pos hL.dn]
    rw [this]
    exact (consume_dn b e.down _ _ w hL.rw.lt hL.c2 hL.dn).mono fun r w' h => ⟨h.1, by rw [h.2]; exact PPost.same (.inr hL)⟩
theorem reset_p (b : Nat) (e : Lk.En) (d : PD) (k n : Int) (w : World) (hL : PEnd w b e d) (hk : I64 k) :
    Calls Tryz.prog 69 #[.pointer (some ⟨b, 0, none⟩), .int .i64 k, .int .i64 n] w fun r w' => r = .returned (.int .i64 ((e.resetC k n).1 : Int)) ∧ PPost w b d (e.resetC k n).2 w' := by
  rcases hL with ⟨hL, hdn⟩ | hL
  · exact (reset_any b e d k n w hL hdn hk).mono fun r w' h => ⟨h.1, h.2.toP ((Lk.En.resetC_down _ _ _).trans hdn)⟩
  · have : e.resetC k n = (13, e) := by unfold Lk.En.resetC; rw [if_pos hL.dn]
    rw [this]
    exact (reset_dn b e.down _ _ w hL.rw.lt hL.c2 hL.dn).mono fun r w' h => ⟨h.1, by rw [h.2]; exact PPost.same (.inr hL)⟩
theorem submit_p (b B1 : Nat) (e : Lk.En) (d : PD) (l : List Lk.Hd) (lv : Value) (body : ByteArray) (w : World) (hL : PEnd w b e d) (hfx : Fx w) (own : w.ownsRow B1 112 2 lv l.length (hdsV l)) :
    Calls Tryz.prog 19 #[.pointer (some ⟨b, 0, none⟩), lv, .string body] w fun r w' => r = .returned (.tuple #[.int .i64 ((e.submitC l body.data.toList).1.1 : Int), .int .i64 ((e.submitC l body.data.toList).1.2.1 : Int), .int .i64 ((e.submitC l body.data.toList).1.2.2 : Int)]) ∧ PPost w b d (e.submitC l body.data.toList).2 w' := by
  rcases hL with ⟨hL, hdn⟩ | hL
  · exact (submit_any b B1 e d l lv body w hL hdn hfx own).mono fun r w' h => ⟨h.1, h.2.toP ((Lk.En.submitC_down _ _ _).trans hdn)⟩
  · have : e.submitC l body.data.toList = ((0, 13, 0), e) := by unfold Lk.En.submitC; rw [if_pos hL.dn]
    rw [this]
    exact (submit_dn b e.down _ _ w hL.rw.lt hL.c2 hL.dn).mono fun r w' h => ⟨h.1, by rw [h.2]; exact PPost.same (.inr hL)⟩
end Go.Proofs.YtbkpdapagfjmmaaGreatDoor

/-
  Walks: what is asked of a kind, a stream, a length (both sides).
-/
namespace Go.Proofs.YtbkpdapagfjmmaaGreatDoor
open Go.RowKit

set_option maxHeartbeats 400000 in
theorem streamFits_any (k s : Int) (w : World) :
    Calls Tryz.prog 85 #[.int .i64 k, .int .i64 s] w fun e w' => e = .returned (.bool (Lk.streamFits k s)) ∧ w' = w := by
  go_enter Tryz.func85, Tryz.ntmps85
  go_wp2
  all_goals go_ret
  all_goals refine ⟨ret_bool ?_, rfl⟩
  all_goals unfold Lk.streamFits
  all_goals (repeat' split) <;> first | rfl | omega | (simp_all; done) | (exfalso; simp_all; omega)

set_option maxHeartbeats 400000 in
theorem lengthFits_any (k n : Int) (w : World) :
    Calls Tryz.prog 86 #[.int .i64 k, .int .i64 n] w fun e w' => e = .returned (.bool (Lk.lengthFits k n)) ∧ w' = w := by
  go_enter Tryz.func86, Tryz.ntmps86
  go_wp2
  all_goals go_ret
  all_goals refine ⟨ret_bool ?_, rfl⟩
  all_goals unfold Lk.lengthFits
  all_goals (repeat' split) <;> first | rfl | omega | (simp_all; done) | (exfalso; simp_all; omega) | (simp_all; omega)

set_option maxHeartbeats 400000 in
theorem askKind_any (k : Int) (w : World) :
    Calls Tryz.prog 132 #[.int .i64 k] w fun e w' => e = .returned (.int .i64 (Lk.kindErr k)) ∧ w' = w := by
  go_enter Tryz.func132, Tryz.ntmps132
  go_wp2
  all_goals go_ret
  all_goals refine ⟨ret_int ?_, rfl⟩
  all_goals unfold Lk.kindErr
  all_goals first | (rw [if_pos (by omega)]; done) | (rw [if_neg (by omega)]; done)

theorem kinds8 {k : Int} (h0 : 0 ≤ k) (h7 : k ≤ 7) : k = 0 ∨ k = 1 ∨ k = 2 ∨ k = 3 ∨ k = 4 ∨ k = 5 ∨ k = 6 ∨ k = 7 := by omega

def wantOf (k : Int) : Int × Int × Int × Int :=
  if k = 0 then (1, 268435455, 0, 64) else if k = 1 then (1, 268435455, 1, 16) else if k = 2 then (1, 268435455, 0, 16) else if k = 3 then (1, 268435455, 1, 4)
  else if k = 4 then (0, 268435455, 1, 4) else if k = 5 then (0, 0, 8, 8) else if k = 6 then (0, 0, 8, 8) else (0, 0, 1, 4)

set_option maxHeartbeats 400000 in
theorem wantOf_any (k : Int) (h0 : 0 ≤ k) (h7 : k ≤ 7) (w : World) :
    Calls Tryz.prog 173 #[.int .i64 k] w fun e w' => e = .returned (.agg #[.int .i64 (wantOf k).1, .int .i64 (wantOf k).2.1, .int .i64 (wantOf k).2.2.1, .int .i64 (wantOf k).2.2.2]) ∧ Below w.heap.size w w' := by
  rcases kinds8 h0 h7 with rfl | rfl | rfl | rfl | rfl | rfl | rfl | rfl
  all_goals
    rw [wantOf]
    go_enter Tryz.func173, Tryz.ntmps173
    go_wp2
    refine bodyPost_ret (v := _) (by simp [results, Tryz.results173, go_sem]) rfl ⟨rfl, ?_⟩
    ((repeat' (first | exact Below.refl _ _ | assumption | apply Below.drew | apply Below.alloc | apply Below.setCell)) <;> (simp <;> omega))

def IsWant (k a b x y : Int) : Prop := wantOf k = (a, b, x, y)

theorem wantOf_is (k : Int) (h0 : 0 ≤ k) (h7 : k ≤ 7) (w : World) :
    Calls Tryz.prog 173 #[.int .i64 k] w fun e w' => ∃ a b x y, e = .returned (.agg #[.int .i64 a, .int .i64 b, .int .i64 x, .int .i64 y]) ∧ IsWant k a b x y ∧ Below w.heap.size w w' := by
  refine (wantOf_any k h0 h7 w).mono ?_
  rintro e w' ⟨rfl, hb⟩
  exact ⟨_, _, _, _, rfl, rfl, hb⟩

end Go.Proofs.YtbkpdapagfjmmaaGreatDoor

/-
  Walks: the cursor: one byte, so many bytes; the reader: what lacks, what it keeps.
-/
namespace Go.Proofs.YtbkpdapagfjmmaaGreatDoor
open Go.RowKit

theorem take_no (b : Nat) (T : TypeId) (s : ByteArray) (p n : Nat) (more : List Value) (w : World) (hs : s.size ≤ maxLen) (hp : p ≤ s.size) (hn : s.size < p + n) (hI : Is w b T (.string s :: .int .i64 p :: more)) :
    Calls Tryz.prog 137 #[.pointer (some ⟨b, 0, none⟩), .int .i64 n] w fun e w' => e = .returned (.tuple #[.string ⟨#[]⟩, .bool false]) ∧ Is w' b T (.string s :: .int .i64 (s.size : Int) :: more) ∧ Turns b w w' := by
  unfold maxLen at hs
  have c0 : w.cell? ⟨b, 0, none⟩ = some (.string s) := hI.cell 0
  have c1 : w.cell? ⟨b, 1, none⟩ = some (.int .i64 p) := hI.cell 1
  have f1 : w.frozen? ⟨b, 1, none⟩ = false := hI.free 1
  have hlt : (s.size : Int) - p < n := by omega
  go_enter Tryz.func137, Tryz.ntmps137
  go_wp2_with fail
  go_quiet (fail)
  go_wp2_with fail
  go_ret2
  exact ⟨rfl, (hI.drewN _).set 1 _, ((Turns.refl _ _).drewN _).set 1 _⟩

theorem take_yes (b : Nat) (T : TypeId) (s : ByteArray) (p n : Nat) (more : List Value) (w : World) (hs : s.size ≤ maxLen) (hn : p + n ≤ s.size) (hI : Is w b T (.string s :: .int .i64 p :: more)) :
    Calls Tryz.prog 137 #[.pointer (some ⟨b, 0, none⟩), .int .i64 n] w fun e w' => e = .returned (.tuple #[.string (s.extract p (p + n)), .bool true]) ∧ Is w' b T (.string s :: .int .i64 ((p + n : Nat) : Int) :: more) ∧ Turns b w w' := by
  unfold maxLen at hs
  have c0 : w.cell? ⟨b, 0, none⟩ = some (.string s) := hI.cell 0
  have c1 : w.cell? ⟨b, 1, none⟩ = some (.int .i64 p) := hI.cell 1
  have f1 : w.frozen? ⟨b, 1, none⟩ = false := hI.free 1
  have hlt : ¬ ((s.size : Int) - p < n) := by omega
  have hn' : (p : Int) + n ≤ s.size := by omega
  go_enter Tryz.func137, Tryz.ntmps137
  go_wp2_with fail
  go_quiet (fail)
  go_wp2_with fail
  go_quiet (fail)
  go_wp2_with fail
  go_ret2
  exact ⟨rfl, (hI.drewN _).set 1 _, ((Turns.refl _ _).drewN _).set 1 _⟩

theorem lack_any (b : Nat) (T : TypeId) (s : ByteArray) (p : Nat) (more : List Value) (w : World) (hs : s.size ≤ maxLen) (hI : Is w b T (.string s :: .int .i64 p :: more)) :
    Calls Tryz.prog 134 #[.pointer (some ⟨b, 0, none⟩)] w fun e w' => e = .returned (.int .i64 (if s.size ≤ p then 0 else 2)) ∧ ∃ n, w' = w.drewN n := by
  have HE := hide (fun w hI => ended_any b T s p more w hs hI)
  by_cases h : s.size ≤ p
  · have hd : decide (s.size ≤ p) = true := by simp; omega
    rw [if_pos h]
    go_enter Tryz.func134, Tryz.ntmps134
    go_wp2_with fail
    refine (unhide HE _ hI).mono ?_
    rintro e w1 ⟨rfl, n1, rfl⟩
    go_wp2_with fail
    go_ret
    exact ⟨rfl, _, rfl⟩
  · have hd : decide (s.size ≤ p) = false := by simp; omega
    rw [if_neg h]
    go_enter Tryz.func134, Tryz.ntmps134
    go_wp2_with fail
    refine (unhide HE _ hI).mono ?_
    rintro e w1 ⟨rfl, n1, rfl⟩
    go_wp2_with fail
    go_ret
    exact ⟨rfl, _, rfl⟩

end Go.Proofs.YtbkpdapagfjmmaaGreatDoor

/-
  Walks: what the reader keeps.
-/
namespace Go.Proofs.YtbkpdapagfjmmaaGreatDoor
open Go.RowKit

theorem Turns.setNew {b : Nat} {w w1 : World} (h : Turns b w w1) {a : Addr} (ha : w.heap.size ≤ a.block) (v : Value) : Turns b w (w1.setCell a v) :=
  ⟨h.os, h.tape, h.output, by simpa using h.size, fun k hk hn => (heap_setCell_other _ _ _ _ (by omega)).trans (h.block k hk hn)⟩

set_option maxHeartbeats 400000 in
theorem keep_ok {T : TypeId} {more : List Value} (b : Nat) (s : ByteArray) (p q : Nat) (f : Int) (w : World) (_hs : s.size ≤ maxLen) (hq : q ≤ s.size) (hr : s.size - q ≤ 1000)
    (hI : Is w b T (.string s :: .int .i64 p :: .int .i64 f :: more)) :
    Calls Tryz.prog 89 #[.pointer (some ⟨b, 0, none⟩), .int .i64 q, .int .i64 0] w fun e w' =>
      e = .returned (.tuple #[]) ∧ Is w' b T (.string (s.extract q s.size) :: .int .i64 0 :: .int .i64 0 :: more) ∧ Turns b w w' := by
  unfold maxLen at _hs
  have HC := hide (fun w => clone_any (s.extract q s.size) w (by rw [ByteArray.size_extract]; omega))
  have c0 : w.cell? ⟨b, 0, none⟩ = some (.string s) := hI.cell 0
  have hq' : (q : Int) ≤ s.size := by omega
  go_enter Tryz.func89, Tryz.ntmps89
  go_wp2_with fail
  refine (unhide HC _).mono ?_
  rintro e w1 ⟨rfl, hb⟩
  have hI1 := hI.below hb hI.lt
  have hT1 := (Turns.refl b w).below hb
  have d0 := hI1.cell 0
  have d1 := hI1.cell 1
  have d2 := hI1.cell 2
  have f0 := hI1.free 0
  have f1 := hI1.free 1
  have f2 := hI1.free 2
  simp only [List.getElem?_cons_zero, List.getElem?_cons_succ] at d0 d1 d2
  clear hb hI c0
  go_wp2_with fail
  go_end0
  exact ⟨rfl, ((hI1.set 0 _).set 1 _).set 2 _, ((hT1.set 0 _).set 1 _).set 2 _⟩

set_option maxHeartbeats 400000 in
theorem keep_bad {T : TypeId} {more : List Value} (b : Nat) (s : ByteArray) (p q : Nat) (f e0 : Int) (w : World) (he : e0 ≠ 0)
    (hI : Is w b T (.string s :: .int .i64 p :: .int .i64 f :: more)) :
    Calls Tryz.prog 89 #[.pointer (some ⟨b, 0, none⟩), .int .i64 q, .int .i64 e0] w fun e w' =>
      e = .returned (.tuple #[]) ∧ Is w' b T (.string ⟨#[]⟩ :: .int .i64 0 :: .int .i64 e0 :: more) ∧ Turns b w w' := by
  have he' : (e0 == 0) = false := by simpa using he
  have d0 := hI.cell 0
  have d1 := hI.cell 1
  have d2 := hI.cell 2
  have f0 := hI.free 0
  have f1 := hI.free 1
  have f2 := hI.free 2
  simp only [List.getElem?_cons_zero, List.getElem?_cons_succ] at d0 d1 d2
  clear he
  go_enter Tryz.func89, Tryz.ntmps89
  go_wp2_with fail
  go_end0
  exact ⟨rfl, ((hI.set 0 _).set 1 _).set 2 _, (((Turns.refl _ _).set 0 _).set 1 _).set 2 _⟩

end Go.Proofs.YtbkpdapagfjmmaaGreatDoor

/-
  Walks: what is asked of a stream, a length, a payload.
-/
namespace Go.Proofs.YtbkpdapagfjmmaaGreatDoor
open Go.RowKit

theorem want_stream (a b x y : Int) (w : World) : (Instr.field 275 (.agg #[.int .i64 a, .int .i64 b, .int .i64 x, .int .i64 y]) 0).run Tryz.prog w = .ok (.agg #[.int .i64 a, .int .i64 b]) w := by kernel_rfl
theorem want_length (a b x y : Int) (w : World) : (Instr.field 275 (.agg #[.int .i64 a, .int .i64 b, .int .i64 x, .int .i64 y]) 1).run Tryz.prog w = .ok (.agg #[.int .i64 x, .int .i64 y]) w := by kernel_rfl

theorem stream_of {k a b x y s : Int} (h : IsWant k a b x y) (h0 : 0 ≤ k) (h7 : k ≤ 7) (hs0 : 0 ≤ s) (hs : s ≤ 268435455) : Lk.streamFits k s = decide (a ≤ s ∧ s ≤ b) := by
  unfold IsWant wantOf at h
  unfold Lk.streamFits
  rcases kinds8 h0 h7 with rfl | rfl | rfl | rfl | rfl | rfl | rfl | rfl <;> simp at h <;> obtain ⟨rfl, rfl, -, -⟩ := h <;> rw [Bool.eq_iff_iff] <;> simp <;> omega

theorem length_of {k a b x y n : Int} (h : IsWant k a b x y) (h0 : 0 ≤ k) (h7 : k ≤ 7) (hs0 : 0 ≤ n) (hs : n ≤ 64) : Lk.lengthFits k n = decide (x ≤ n ∧ n ≤ y) := by
  unfold IsWant wantOf at h
  unfold Lk.lengthFits
  rcases kinds8 h0 h7 with rfl | rfl | rfl | rfl | rfl | rfl | rfl | rfl <;> simp at h <;> obtain ⟨-, -, rfl, rfl⟩ := h <;> rw [Bool.eq_iff_iff] <;> simp <;> omega

set_option maxHeartbeats 400000 in
set_option maxRecDepth 100000 in
theorem askStream_any (k s : Int) (h0 : 0 ≤ k) (h7 : k ≤ 7) (hs0 : 0 ≤ s) (hs : s ≤ 268435455) (w : World) :
    Calls Tryz.prog 135 #[.int .i64 k, .int .i64 s] w fun e w' => e = .returned (.int .i64 (Lk.streamErr k s)) ∧ Below w.heap.size w w' := by
  have f0 := want_stream
  go_enter Tryz.func135, Tryz.ntmps135
  go_wp2_with fail
  refine (wantOf_is k h0 h7 _).mono ?_
  rintro e w1 ⟨a, b, x, y, rfl, H, hb1⟩
  go_wp2_with fail
  refine (holds_any _ _ _ _).mono ?_
  rintro e w2 ⟨rfl, hb2⟩
  have hb := hb1.trans (hb2.mono hb1.size)
  have HS := hide (stream_of H h0 h7 hs0 hs)
  generalize decide (a ≤ s ∧ s ≤ b) = d at *
  cases d
  all_goals
    go_wp2_with fail
    go_ret
    exact ⟨ret_int (by rw [Lk.streamErr, unhide HS]; rfl), hb⟩

set_option maxHeartbeats 400000 in
set_option maxRecDepth 100000 in
theorem askLength_any (k n : Int) (h0 : 0 ≤ k) (h7 : k ≤ 7) (hn0 : 0 ≤ n) (w : World) :
    Calls Tryz.prog 136 #[.int .i64 k, .int .i64 n] w fun e w' => e = .returned (.int .i64 (Lk.lengthErr k n)) ∧ Below w.heap.size w w' := by
  by_cases hn : 64 < n
  · go_enter Tryz.func136, Tryz.ntmps136
    go_wp2_with fail
    go_ret
    exact ⟨ret_int (by rw [Lk.lengthErr, if_pos hn]), Below.refl _ _⟩
  have f0 := want_length
  go_enter Tryz.func136, Tryz.ntmps136
  go_wp2_with fail
  refine (wantOf_is k h0 h7 _).mono ?_
  rintro e w1 ⟨a, b, x, y, rfl, H, hb1⟩
  go_wp2_with fail
  refine (holds_any _ _ _ _).mono ?_
  rintro e w2 ⟨rfl, hb2⟩
  have hb := hb1.trans (hb2.mono hb1.size)
  have HS := hide (length_of H h0 h7 hn0 (by omega))
  generalize decide (x ≤ n ∧ n ≤ y) = d at *
  cases d
  all_goals
    go_wp2_with fail
    go_ret
    exact ⟨ret_int (by rw [Lk.lengthErr, if_neg (by omega), unhide HS]; rfl), hb⟩

end Go.Proofs.YtbkpdapagfjmmaaGreatDoor
