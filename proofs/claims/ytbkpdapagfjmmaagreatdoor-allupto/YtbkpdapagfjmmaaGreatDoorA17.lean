import Derived.Test.YtbkpdapagfjmmaaGreatDoorA13
import Derived.Test.YtbkpdapagfjmmaaGreatDoorA9
set_option linter.unusedVariables false
set_option maxRecDepth 100000
set_option maxHeartbeats 16000000
namespace Go.Proofs.YtbkpdapagfjmmaaGreatDoor
open Go.RowKit
theorem Is.three {w : World} {b : Nat} {T : TypeId} {x y z : Value} (h : Is w b T [x, y, z]) : w.cell? ⟨b, 0, none⟩ = some x ∧ w.cell? ⟨b, 1, none⟩ = some y ∧ w.cell? ⟨b, 2, none⟩ = some z := ⟨h.cell 0, h.cell 1, h.cell 2⟩
theorem qp (k st : Int) (s : ByteArray) (w : World) (hs : s.size <= maxLen) :
 Calls Tryz.prog 98 #[.agg #[.int .i64 k, .int .i64 st, .string s]] w fun e w' => e = .returned (.int .i64 (Lk.aO k st s.data.toList)) ∧ Below w.heap.size w w' := by
 have hs' := hs
 unfold maxLen at hs'
 have hb0 : Below w.heap.size w (w.alloc (.cells #[.int .i64 k, .int .i64 st, .string s] 79)) := (Below.refl _ _).alloc (Nat.le_refl _) _
 have hI0 := Is.new w 79 [.int .i64 k, .int .i64 st, .string s]
 by_cases hk : k < 0 ∨ 7 < k
 . have hp : Lk.aO k st s.data.toList = 3 := by rw [Lk.aO, if_pos hk]
   have hke : Lk.jH k = 3 := by rw [Lk.jH, if_pos hk]
   rw [hp]
   have HK := hide hke
   clear hp hke
   go_enter Tryz.func98, Tryz.ntmps98
   go_wp2_with fail
   refine (jk k _).mono ?_
   rw [uh HK]
   rintro e w1 ⟨rfl, rfl⟩
   go_wp2_with fail
   go_ret
   exact ⟨rfl, hb0⟩
 have hke : Lk.jH k = 0 := by rw [Lk.jH, if_neg hk]
 have HK := hide hke
 have h0 : 0 <= k := by omega
 have h7 : k <= 7 := by omega
 clear hke
 by_cases hst : st < 0 ∨ 268435455 < st
 . have hp : Lk.aO k st s.data.toList = 2 := by rw [Lk.aO, if_neg hk, if_pos hst]
   rw [hp]
   clear hp hk
   have hnum : (decide (0 <= st) && decide (st <= 268435455)) = false := by
    rcases hst with h | h
    . rw [decide_eq_false (by omega)]; rfl
    . rw [decide_eq_false (by omega : ¬ st <= 268435455), Bool.and_false]
   clear hst
   go_enter Tryz.func98, Tryz.ntmps98
   go_wp2_with fail
   refine (jk k _).mono ?_
   rw [uh HK]
   rintro e w1 ⟨rfl, rfl⟩
   go_wp2_with fail
   refine (dU st _).mono ?_
   rw [hnum]
   rintro e w1 ⟨rfl, rfl⟩
   go_wp2_with fail
   go_ret
   exact ⟨rfl, hb0⟩
 have hs0 : 0 <= st := by omega
 have hs1 : st <= 268435455 := by omega
 go_enter Tryz.func98, Tryz.ntmps98
 go_wp2_with fail
 refine (jk k _).mono ?_
 rw [uh HK]
 rintro e w1 ⟨rfl, rfl⟩
 have hnum : (decide (0 <= st) && decide (st <= 268435455)) = true := by simp [hs0, hs1]
 go_wp2_with fail
 refine (dU st _).mono ?_
 rw [hnum]
 rintro e w1 ⟨rfl, rfl⟩
 clear hnum
 go_wp2_with fail
 refine (nT k st h0 h7 hs0 hs1 _).mono ?_
 rintro e w1 ⟨rfl, hb1⟩
 have Iw := hb0.trans (hb1.mono (by simp))
 have hI1 := hI0.below hb1 (by simp)
 obtain ⟨c0, c1, c2⟩ := hI1.three
 by_cases hsf : Lk.aC k st = false
 . have hp : Lk.aO k st s.data.toList = 4 := by rw [Lk.aO, if_neg hk, if_neg hst, if_pos hsf]
   have hse : Lk.fM k st = 4 := by rw [Lk.fM, if_pos hsf]
   rw [hse]
   have HP := hide hp
   clear hp hse hsf hk hst hb0 hI0 hb1 hI1
   go_wp2_with fail
   go_ret
   exact ⟨je (uh HP).symm, Iw⟩
 have hse : Lk.fM k st = 0 := by rw [Lk.fM, if_neg hsf]
 rw [hse]
 clear hse
 have hlen : ((s.size : Nat) : Int) = (s.data.toList.length : Int) := by rw [af]
 have U2 : ∀ x, Lk.dF k s.size = x -> x ≠ 0 -> Lk.aO k st s.data.toList = x := by
  intro x hx hx0
  rw [Lk.aO, if_neg hk, if_neg hst, if_neg hsf]
  rw [Lk.dF, hlen] at hx
  by_cases hL : 64 < s.data.toList.length
  . rw [if_pos hL]
    rw [if_pos (by omega)] at hx
    exact hx
  . rw [if_neg hL]
    rw [if_neg (by omega)] at hx
    by_cases hf : Lk.aA k s.data.toList.length = false
    . rw [if_pos hf]; rw [if_pos hf] at hx; exact hx
    . rw [if_neg hf] at hx; omega
 have U3 : Lk.dF k s.size = 0 -> Lk.aO k st s.data.toList = Lk.bP k s.data.toList := by
  intro hx
  rw [Lk.aO, if_neg hk, if_neg hst, if_neg hsf]
  rw [Lk.dF, hlen] at hx
  by_cases hL : 64 < s.data.toList.length
  . rw [if_pos (by omega)] at hx; omega
  . rw [if_neg hL]
    rw [if_neg (by omega)] at hx
    by_cases hf : Lk.aA k s.data.toList.length = false
    . rw [if_pos hf] at hx; omega
    . rw [if_neg hf, Lk.bP]
 have HA := hide U2
 have HB := hide U3
 clear U2 U3 hlen hsf hk hst hb0 hI0 hb1
 go_wp2_with fail
 refine (nU k _ h0 h7 (by omega) _).mono ?_
 rintro e w2 ⟨rfl, hb2⟩
 have hbw2 := Iw.trans (hb2.mono Iw.size)
 have hI2 := hI1.below hb2 hI1.lt
 clear c0 c1 c2
 obtain ⟨c0, c1, c2⟩ := hI2.three
 generalize hle : Lk.dF k s.size = le
 have HL := hide hle
 clear hle hb2 hI1 Iw
 by_cases hz : le = 0
 . subst hz
   go_wp2_with fail
   refine (mM k s _ hs).mono ?_
   rintro e w3 ⟨rfl, hb3⟩
   have hbw3 := hbw2.trans (hb3.mono hbw2.size)
   clear hb3 c0 c1 c2
   have HE := hide (uh HB (uh HL))
   go_wp2_with fail
   go_ret
   exact ⟨je (uh HE).symm, hbw3⟩
 . have hne : (le != 0) = true := by rw [bne_iff_ne]; exact hz
   have HE := hide (uh HA le (uh HL) hz)
   clear hz
   go_wp2_with fail
   go_ret
   exact ⟨je (uh HE).symm, hbw2⟩
theorem LQ {a b : ByteArray} {x y : Int} (h : a = b) (h' : x = y) : Ending.returned (.tuple #[.string a, .int .i64 x]) = .returned (.tuple #[.string b, .int .i64 y]) := by rw [h, h']
def jm (k st : Int) (l : Lk.Bs) : ByteArray := if Lk.aO k st l = 0 then ⟨(Lk.packed k st l).toArray⟩ else ⟨#[]⟩
theorem Pj (k st : Int) (s : ByteArray) (w : World) (hs : s.size <= maxLen) (hne : Lk.aO k st s.data.toList ≠ 0) :
 Calls Tryz.prog 55 #[.agg #[.int .i64 k, .int .i64 st, .string s]] w fun e w' => e = .returned (.tuple #[.string (jm k st s.data.toList), .int .i64 (Lk.aO k st s.data.toList)]) ∧ Below w.heap.size w w' := by
 have hps : jm k st s.data.toList = ⟨#[]⟩ := by rw [jm, if_neg hne]
 have HA := hide (fun w => qp k st s w hs)
 rw [hps]
 generalize Lk.aO k st s.data.toList = pe at *
 have hpe : (pe != 0) = true := by rw [bne_iff_ne]; exact hne
 clear hps hne
 go_enter Tryz.func55, Tryz.ntmps55
 go_wp2_with fail
 refine (uh HA _).mono ?_
 rintro e w1 ⟨rfl, hb1⟩
 have Iw := ((Below.refl w.heap.size w).alloc (Nat.le_refl _) _).trans (hb1.mono (by simp))
 clear hb1
 go_wp2_with fail
 go_ret2
 exact ⟨rfl, Iw⟩
theorem LV (k st : Int) (s : ByteArray) (w : World) (hs : s.size <= maxLen) (he : Lk.aO k st s.data.toList = 0) (h0 : 0 <= k) (h7 : k <= 7) (hs0 : 0 <= st) (hs1 : st <= 268435455) (hl : s.size <= 64) :
 Calls Tryz.prog 55 #[.agg #[.int .i64 k, .int .i64 st, .string s]] w fun e w' => e = .returned (.tuple #[.string (jm k st s.data.toList), .int .i64 (Lk.aO k st s.data.toList)]) ∧ Below w.heap.size w w' := by
 have hps : jm k st s.data.toList = ⟨(Lk.packed k st s.data.toList).toArray⟩ := by rw [jm, if_pos he]
 have HA := hide (fun w => qp k st s w hs)
 have hI0 := Is.new w 79 [.int .i64 k, .int .i64 st, .string s]
 have hb0 : Below w.heap.size w (w.alloc (.cells #[.int .i64 k, .int .i64 st, .string s] 79)) := (Below.refl _ _).alloc (Nat.le_refl _) _
 rw [hps, he]
 rw [he] at HA
 clear hps
 have HE := hide he
 clear he
 obtain ⟨n, rfl⟩ := Int.eq_ofNat_of_zero_le hs0
 obtain ⟨m, rfl⟩ := Int.eq_ofNat_of_zero_le h0
 go_enter Tryz.func55, Tryz.ntmps55
 go_wp2_with fail
 refine (uh HA _).mono ?_
 rintro e w1 ⟨rfl, hb1⟩
 have hI1 := hI0.below hb1 (by simp)
 have Iw := hb0.trans (hb1.mono (by simp))
 obtain ⟨c0, c1, c2⟩ := hI1.three
 have hz := hI1.lt
 clear hb0 hI0 hb1
 go_wp2_with fail
 refine (lg w1.heap.size _ [] m n s _ (Nat.le_refl _) (World.ownsRow_nil _ _ _ _) (by simp) (by omega) (by omega) hl).mono ?_
 rintro e w2 ⟨v2, rfl, ho2, hb2, _⟩
 rw [List.nil_append] at ho2
 have hcv := jE ho2 (by simp [Lk.packed])
 have hbw2 := Iw.trans (hb2.mono Iw.size)
 clear hb2 ho2 c0 c1 c2
 go_wp2_with fail
 go_ret2
 exact ⟨rfl, hbw2⟩
theorem qw {k st : Int} {l : Lk.Bs} (h : Lk.aO k st l = 0) : 0 <= k ∧ k <= 7 ∧ 0 <= st ∧ st <= 268435455 ∧ l.length <= 64 ∧ Lk.aC k st = true ∧ Lk.aA k l.length = true ∧ Lk.ay k l = true := by
 unfold Lk.aO at h
 by_cases h1 : k < 0 ∨ 7 < k
 . rw [if_pos h1] at h; omega
 rw [if_neg h1] at h
 by_cases h2 : st < 0 ∨ 268435455 < st
 . rw [if_pos h2] at h; omega
 rw [if_neg h2] at h
 by_cases h3 : Lk.aC k st = false
 . rw [if_pos h3] at h; omega
 rw [if_neg h3] at h
 by_cases h4 : 64 < l.length
 . rw [if_pos h4] at h; omega
 rw [if_neg h4] at h
 by_cases h5 : Lk.aA k l.length = false
 . rw [if_pos h5] at h; omega
 rw [if_neg h5] at h
 by_cases h6 : Lk.ay k l = false
 . rw [if_pos h6] at h; omega
 simp only [Bool.not_eq_false] at h3 h5 h6
 exact ⟨by omega, by omega, by omega, by omega, by omega, h3, h5, h6⟩
theorem LW (k st : Int) (s : ByteArray) (w : World) (hs : s.size <= maxLen) :
 Calls Tryz.prog 55 #[.agg #[.int .i64 k, .int .i64 st, .string s]] w fun e w' => e = .returned (.tuple #[.string (jm k st s.data.toList), .int .i64 (Lk.aO k st s.data.toList)]) ∧ Below w.heap.size w w' := by
 by_cases h : Lk.aO k st s.data.toList = 0
 . obtain ⟨h0, h7, h1, h2, h3, _⟩ := qw h
   exact LV k st s w hs h h0 h7 h1 h2 (by rw [af]; exact h3)
 . exact Pj k st s w hs h
theorem Gf (k st : Int) (s : ByteArray) (w : World) (hne : Lk.aO k st s.data.toList ≠ 0) :
 Calls Tryz.prog 56 #[.agg #[.int .i64 k, .int .i64 st, .string s]] w fun e w' => e = .returned (.tuple #[.string ⟨#[]⟩, .int .i64 (Lk.aO k st s.data.toList)]) ∧ Below w.heap.size w w' := by
 have hb0 : Below w.heap.size w (w.alloc (.cells #[.int .i64 k, .int .i64 st, .string s] 66)) := (Below.refl _ _).alloc (Nat.le_refl _) _
 have HNE := hide hne
 clear hne
 by_cases hk : k < 0 ∨ 7 < k
 . have hp : Lk.aO k st s.data.toList = 3 := by rw [Lk.aO, if_pos hk]
   rw [hp]
   clear hp HNE
   rcases hk with hk | hk
   all_goals
    go_enter Tryz.func56, Tryz.ntmps56
    go_wp2_with fail
    go_ret2
    exact ⟨rfl, hb0⟩
 by_cases hst : st < 0 ∨ 268435455 < st
 . have hp : Lk.aO k st s.data.toList = 2 := by rw [Lk.aO, if_neg hk, if_pos hst]
   rw [hp]
   have h0 : 0 <= k := by omega
   have h7 : k <= 7 := by omega
   clear hp HNE hk
   rcases hst with hst | hst
   all_goals
    go_enter Tryz.func56, Tryz.ntmps56
    go_wp2_with fail
    go_ret2
    exact ⟨rfl, hb0⟩
 have h0 : 0 <= k := by omega
 have h7 : k <= 7 := by omega
 have hs0 : 0 <= st := by omega
 have hs1 : st <= 268435455 := by omega
 by_cases hsf : Lk.aC k st = false
 . have hp : Lk.aO k st s.data.toList = 4 := by rw [Lk.aO, if_neg hk, if_neg hst, if_pos hsf]
   rw [hp]
   have HS := hide hsf
   clear hp HNE hk hst hsf
   go_enter Tryz.func56, Tryz.ntmps56
   go_wp2_with fail
   refine (dL k st _).mono ?_
   rw [uh HS]
   rintro e w1 ⟨rfl, rfl⟩
   go_wp2_with fail
   go_ret2
   exact ⟨rfl, hb0⟩
 by_cases hL : 64 < s.data.toList.length
 . have hp : Lk.aO k st s.data.toList = 5 := by rw [Lk.aO, if_neg hk, if_neg hst, if_neg hsf, if_pos hL]
   rw [hp]
   simp only [Bool.not_eq_false] at hsf
   rw [<- af] at hL
   have hL' : (64 : Int) < (s.size : Int) := by omega
   have HS := hide hsf
   clear hp HNE hk hst hsf
   go_enter Tryz.func56, Tryz.ntmps56
   go_wp2_with fail
   refine (dL k st _).mono ?_
   rw [uh HS]
   rintro e w1 ⟨rfl, rfl⟩
   go_wp2_with fail
   go_ret2
   exact ⟨rfl, hb0⟩
 by_cases hf : Lk.aA k s.data.toList.length = false
 . have hp : Lk.aO k st s.data.toList = 6 := by rw [Lk.aO, if_neg hk, if_neg hst, if_neg hsf, if_neg hL, if_pos hf]
   rw [hp]
   simp only [Bool.not_eq_false] at hsf
   rw [<- af] at hL hf
   have hL' : ¬ (64 : Int) < (s.size : Int) := by omega
   have HS := hide hsf
   have HF := hide hf
   clear hp HNE hk hst hsf hf
   go_enter Tryz.func56, Tryz.ntmps56
   go_wp2_with fail
   refine (dL k st _).mono ?_
   rw [uh HS]
   rintro e w1 ⟨rfl, rfl⟩
   go_wp2_with fail
   refine (dZ k _ _).mono ?_
   rw [uh HF]
   rintro e w1 ⟨rfl, rfl⟩
   go_wp2_with fail
   go_ret2
   exact ⟨rfl, hb0⟩
 by_cases hg : Lk.ay k s.data.toList = false
 . have hp : Lk.aO k st s.data.toList = 6 := by rw [Lk.aO, if_neg hk, if_neg hst, if_neg hsf, if_neg hL, if_neg hf, if_pos hg]
   rw [hp]
   simp only [Bool.not_eq_false] at hsf hf
   rw [<- af] at hL hf
   have hL' : ¬ (64 : Int) < (s.size : Int) := by omega
   have HS := hide hsf
   have HF := hide hf
   have HG := hide hg
   clear hp HNE hk hst hsf hf hg
   go_enter Tryz.func56, Tryz.ntmps56
   go_wp2_with fail
   refine (dL k st _).mono ?_
   rw [uh HS]
   rintro e w1 ⟨rfl, rfl⟩
   go_wp2_with fail
   refine (dZ k _ _).mono ?_
   rw [uh HF]
   rintro e w1 ⟨rfl, rfl⟩
   go_wp2_with fail
   refine (jl k s _ (by omega)).mono ?_
   rw [uh HG]
   rintro e w2 ⟨rfl, hb2⟩
   have hbw2 := hb0.trans (hb2.mono (by simp))
   clear hb2 hb0
   go_wp2_with fail
   go_ret2
   exact ⟨rfl, hbw2⟩
 exact absurd (by rw [Lk.aO, if_neg hk, if_neg hst, if_neg hsf, if_neg hL, if_neg hf, if_neg hg]) (uh HNE)
end Go.Proofs.YtbkpdapagfjmmaaGreatDoor
