import Derived.Test.YtbkpdapagfjmmaaGreatDoorA17
import Derived.Deep.RegionHeld
set_option linter.unusedVariables false
set_option maxRecDepth 100000
set_option maxHeartbeats 16000000
namespace Go.Proofs.YtbkpdapagfjmmaaGreatDoor
open Go.RowKit
theorem Gg {N : Nat} {m n : Int} {s : ByteArray} {w2 W : World} (h : W.cell? ⟨N, 0, none⟩ = some (.int .i64 m) ∧ W.cell? ⟨N, 1, none⟩ = some (.int .i64 n) ∧ W.cell? ⟨N, 2, none⟩ = some (.string s) ∧ Below w2.heap.size w2 W) (o : Obj) :
 (W.alloc o).cell? ⟨N, 0, none⟩ = some (.int .i64 m) ∧ (W.alloc o).cell? ⟨N, 1, none⟩ = some (.int .i64 n) ∧ (W.alloc o).cell? ⟨N, 2, none⟩ = some (.string s) ∧ Below w2.heap.size w2 (W.alloc o) := by
 obtain ⟨a, b, c, d⟩ := h
 refine ⟨?_, ?_, ?_, d.alloc d.size o⟩
 . rw [World.cell?_alloc_some _ _ _ (by rw [a]; rfl), a]
 . rw [World.cell?_alloc_some _ _ _ (by rw [b]; rfl), b]
 . rw [World.cell?_alloc_some _ _ _ (by rw [c]; rfl), c]
theorem vY {N : Nat} {m n : Int} {s : ByteArray} {w2 W W' : World} (h : W.cell? ⟨N, 0, none⟩ = some (.int .i64 m) ∧ W.cell? ⟨N, 1, none⟩ = some (.int .i64 n) ∧ W.cell? ⟨N, 2, none⟩ = some (.string s) ∧ Below w2.heap.size w2 W) (hb : Below W.heap.size W W') :
 W'.cell? ⟨N, 0, none⟩ = some (.int .i64 m) ∧ W'.cell? ⟨N, 1, none⟩ = some (.int .i64 n) ∧ W'.cell? ⟨N, 2, none⟩ = some (.string s) ∧ Below w2.heap.size w2 W' := by
 obtain ⟨a, b, c, d⟩ := h
 have hN : N < W.heap.size := World.block_lt_of_cell? W ⟨N, 0, none⟩ a
 exact ⟨(hb.cell (p := ⟨N, 0, none⟩) hN).trans a, (hb.cell (p := ⟨N, 1, none⟩) hN).trans b, (hb.cell (p := ⟨N, 2, none⟩) hN).trans c, d.trans (hb.mono d.size)⟩
theorem Md {N : Nat} {m n : Int} {s : ByteArray} {w2 W : World} (h : W.cell? ⟨N, 0, none⟩ = some (.int .i64 m) ∧ W.cell? ⟨N, 1, none⟩ = some (.int .i64 n) ∧ W.cell? ⟨N, 2, none⟩ = some (.string s) ∧ Below w2.heap.size w2 W) : Below w2.heap.size w2 W := h.2.2.2
theorem TQ (m n : Nat) (s : ByteArray) (ln lm : Array UInt8) (h1 : Hid ((Lk.wire n).toArray = ln)) (h2 : Hid ((Lk.wire s.size).toArray = lm)) :
 (⟨#[UInt8.ofNat m]⟩ : ByteArray) ++ ⟨ln⟩ ++ ⟨lm⟩ ++ s = ⟨(Lk.packed m n s.data.toList).toArray⟩ := by
 have e : s = ByteArray.mk s.data.toList.toArray := by simp
 have e1 := ByteArray.mk_append_mk [UInt8.ofNat m] (Lk.wire n)
 have e2 := ByteArray.mk_append_mk ([UInt8.ofNat m] ++ Lk.wire n) (Lk.wire s.size)
 have e3 := ByteArray.mk_append_mk ([UInt8.ofNat m] ++ Lk.wire n ++ Lk.wire s.size) s.data.toList
 rw [<- uh h1, <- uh h2]
 calc (⟨#[UInt8.ofNat m]⟩ : ByteArray) ++ ⟨(Lk.wire n).toArray⟩ ++ ⟨(Lk.wire s.size).toArray⟩ ++ s
  = (⟨([UInt8.ofNat m] ++ Lk.wire n).toArray⟩ : ByteArray) ++ ⟨(Lk.wire s.size).toArray⟩ ++ s := congrArg (· ++ _ ++ s) e1
  _ = (⟨([UInt8.ofNat m] ++ Lk.wire n ++ Lk.wire s.size).toArray⟩ : ByteArray) ++ s := congrArg (· ++ s) e2
  _ = (⟨([UInt8.ofNat m] ++ Lk.wire n ++ Lk.wire s.size).toArray⟩ : ByteArray) ++ ⟨s.data.toList.toArray⟩ := by rw [<- e]
  _ = _ := by rw [e3, Lk.packed, Int.toNat_natCast, Int.toNat_natCast, <- af]; simp
theorem sQ (m n : Nat) (s : ByteArray) (w : World) (h7 : m <= 7) (hs1 : n <= 268435455) (hl : s.size <= 64)
 (hsf : Lk.aC m n = true) (hf : Lk.aA m s.size = true) (hg : Lk.ay m s.data.toList = true) :
 Calls Tryz.prog 56 #[.agg #[.int .i64 m, .int .i64 n, .string s]] w fun e w' => e = .returned (.tuple #[.string ⟨(Lk.packed m n s.data.toList).toArray⟩, .int .i64 0]) ∧ Below w.heap.size w w' := by
 have hb0 : Below w.heap.size w (w.alloc (.cells #[.int .i64 m, .int .i64 n, .string s] 66)) := (Below.refl _ _).alloc (Nat.le_refl _) _
 have hI0 := Is.new w 66 [.int .i64 m, .int .i64 n, .string s]
 have HS := hide hsf
 have HF := hide hf
 have HG := hide hg
 have hL' : ¬ (64 : Int) < (s.size : Int) := by omega
 clear hsf hf hg
 go_enter Tryz.func56, Tryz.ntmps56
 go_wp2_with fail
 refine (dL m n _).mono ?_
 rw [uh HS]
 rintro e w1 ⟨rfl, rfl⟩
 go_wp2_with fail
 refine (dZ m _ _).mono ?_
 rw [uh HF]
 rintro e w1 ⟨rfl, rfl⟩
 go_wp2_with fail
 refine (jl m s _ (by omega)).mono ?_
 rw [uh HG]
 rintro e w2 ⟨rfl, hb2⟩
 have hbw2 := hb0.trans (hb2.mono (by simp))
 have hI2 := hI0.below hb2 (by simp)
 have hz := hI2.lt
 obtain ⟨c0, c1, c2⟩ := hI2.three
 clear hb2 hb0 hI0
 have k1 := oW
 have hwm : IntKind.u8.wrap (m : Int) = m := wraps_u8 _ (by omega) (by omega)
 have k3 := fun W g => rQ W g (m : Int)
 have hn4 := Lk.au n hs1
 have hm4 := Lk.au s.size (by omega)
 generalize hln : (Lk.wire n).toArray = ln
 generalize hlm : (Lk.wire s.size).toArray = lm
 have HLN := hide hln
 have HLM := hide hlm
 have hn5 : ln.size <= 4 := by rw [<- hln]; simpa using hn4
 have hm5 : lm.size <= 4 := by rw [<- hlm]; simpa using hm4
 have HN := hide (fun (x : Int) w (h : x = n) => kD n x w h hs1)
 have HM := hide (fun (x : Int) w (h : x = s.size) => kD s.size x w h (by omega))
 rw [hln] at HN
 rw [hlm] at HM
 have hz1 : 1 + ln.size <= 9223372036854775807 := by omega
 have hz2 : 1 + ln.size + lm.size <= 9223372036854775807 := by omega
 have hz3 : 1 + ln.size + lm.size + s.size <= 9223372036854775807 := by omega
 clear hln hlm hn4 hm4
 go_wp2_with fail
 go_region_held (fun w' => w'.cell? ⟨w.heap.size, 0, none⟩ = some (.int .i64 m) ∧ w'.cell? ⟨w.heap.size, 1, none⟩ = some (.int .i64 n) ∧ w'.cell? ⟨w.heap.size, 2, none⟩ = some (.string s) ∧ Below w2.heap.size w2 w')
  (first | exact ⟨c0, c1, c2, (Below.refl _ _).drew⟩ | exact Gg (by assumption) _ | exact vY (by assumption) hbn | exact vY (by assumption) hbm | assumption)
  (first
   | (go_at_call_of 99 (Value.int IntKind.i64 (n : Int)); refine (uh HN _ _ rfl).mono ?_; rintro e wn ⟨rfl, hbn⟩
      have q1 := fun h => cell_later (a := ⟨w2.heap.size, 0, none⟩) (v := .int .u8 (m : Int)) hbn h
      try simp [*, go_sem] at q1
      try (have q2 := fun h => cell_later (a := ⟨wm.heap.size, 0, none⟩) (v := .int .u8 (m : Int)) hbn h
           simp [*, go_sem] at q2))
   | (go_at_call_of 99 (Value.int IntKind.i64 (s.size : Int)); refine (uh HM _ _ rfl).mono ?_; rintro e wm ⟨rfl, hbm⟩
      have q3 := fun h => cell_later (a := ⟨w2.heap.size, 0, none⟩) (v := .int .u8 (m : Int)) hbm h
      try simp [*, go_sem] at q3
      try (have q4 := fun h => cell_later (a := ⟨wn.heap.size, 0, none⟩) (v := .int .u8 (m : Int)) hbm h
           simp [*, go_sem] at q4)))
 all_goals go_wp2_with fail
 all_goals go_ret2
 all_goals exact ⟨LQ (TQ m n s ln lm HLN HLM) rfl, hbw2.trans ((Md (N := w.heap.size) (m := m) (n := n) (s := s) (w2 := w2) (by assumption)).mono hbw2.size)⟩
theorem Cj (k st : Int) (s : ByteArray) (w : World) :
 Calls Tryz.prog 56 #[.agg #[.int .i64 k, .int .i64 st, .string s]] w fun e w' => e = .returned (.tuple #[.string (jm k st s.data.toList), .int .i64 (Lk.aO k st s.data.toList)]) ∧ Below w.heap.size w w' := by
 by_cases h : Lk.aO k st s.data.toList = 0
 . obtain ⟨h0, h7, h1, h2, h3, h4, h5, h6⟩ := qw h
   rw [jm, if_pos h, h]
   obtain ⟨n, rfl⟩ := Int.eq_ofNat_of_zero_le h1
   obtain ⟨m, rfl⟩ := Int.eq_ofNat_of_zero_le h0
   rw [<- af] at h3 h5
   exact sQ m n s w (by omega) (by omega) h3 h4 h5 h6
 . have e := Gf k st s w h
   rw [jm, if_neg h]
   exact e
end Go.Proofs.YtbkpdapagfjmmaaGreatDoor
