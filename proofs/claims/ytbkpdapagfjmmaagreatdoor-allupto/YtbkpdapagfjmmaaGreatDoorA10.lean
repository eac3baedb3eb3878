import Derived.Test.YtbkpdapagfjmmaaGreatDoorA9
import Derived.Test.YtbkpdapagfjmmaaGreatDoorA6
import Derived.ArgAppend
import Derived.Lib.AppendZeros
set_option linter.unusedVariables false
set_option maxRecDepth 100000
set_option maxHeartbeats 16000000
namespace Go.Proofs.YtbkpdapagfjmmaaGreatDoor
open Go.RowKit
theorem Is.three {w : World} {b : Nat} {T : TypeId} {x y z : Value} (h : Is w b T [x, y, z]) : w.cell? ⟨b, 0, none⟩ = some x ∧ w.cell? ⟨b, 1, none⟩ = some y ∧ w.cell? ⟨b, 2, none⟩ = some z := ⟨h.cell 0, h.cell 1, h.cell 2⟩
theorem qp (k st : Int) (s : ByteArray) (w : World) (hs : s.size <= maxLen) :
 Calls Tryz.prog 98 #[.agg #[.int .i64 k, .int .i64 st, .string s]] w fun e w' => e = .returned (.int .i64 (Lk.aO k st s.data.toList)) ∧ Below w.heap.size w w' := by
 have hs' := hs
 unfold maxLen at hs'
 have hb0 : Below w.heap.size w (w.alloc (.cells #[.int .i64 k, .int .i64 st, .string s] 79)) := (Below.refl _ _).alloc (Nat.le_refl _) _
 have hI0 := Is.new w 79 [.int .i64 k, .int .i64 st, .string s]
 by_cases hk : k < 0 ∨ 7 < k
 . have hp : Lk.aO k st s.data.toList = 3 := by rw [Lk.aO, if_pos hk]
   have hke : Lk.jH k = 3 := by rw [Lk.jH, if_pos hk]
   rw [hp]
   have HK := hide hke
   clear hp hke
   go_enter Tryz.func98, Tryz.ntmps98
   go_wp2_with fail
   refine (jk k _).mono ?_
   rw [uh HK]
   rintro e w1 ⟨rfl, rfl⟩
   go_wp2_with fail
   go_ret
   exact ⟨rfl, hb0⟩
 have hke : Lk.jH k = 0 := by rw [Lk.jH, if_neg hk]
 have HK := hide hke
 have h0 : 0 <= k := by omega
 have h7 : k <= 7 := by omega
 clear hke
 by_cases hst : st < 0 ∨ 268435455 < st
 . have hp : Lk.aO k st s.data.toList = 2 := by rw [Lk.aO, if_neg hk, if_pos hst]
   rw [hp]
   clear hp hk
   have hnum : (decide (0 <= st) && decide (st <= 268435455)) = false := by
    rcases hst with h | h
    . rw [decide_eq_false (by omega)]; rfl
    . rw [decide_eq_false (by omega : ¬ st <= 268435455), Bool.and_false]
   clear hst
   go_enter Tryz.func98, Tryz.ntmps98
   go_wp2_with fail
   refine (jk k _).mono ?_
   rw [uh HK]
   rintro e w1 ⟨rfl, rfl⟩
   go_wp2_with fail
   refine (dU st _).mono ?_
   rw [hnum]
   rintro e w1 ⟨rfl, rfl⟩
   go_wp2_with fail
   go_ret
   exact ⟨rfl, hb0⟩
 have hs0 : 0 <= st := by omega
 have hs1 : st <= 268435455 := by omega
 go_enter Tryz.func98, Tryz.ntmps98
 go_wp2_with fail
 refine (jk k _).mono ?_
 rw [uh HK]
 rintro e w1 ⟨rfl, rfl⟩
 have hnum : (decide (0 <= st) && decide (st <= 268435455)) = true := by simp [hs0, hs1]
 go_wp2_with fail
 refine (dU st _).mono ?_
 rw [hnum]
 rintro e w1 ⟨rfl, rfl⟩
 clear hnum
 go_wp2_with fail
 refine (nT k st h0 h7 hs0 hs1 _).mono ?_
 rintro e w1 ⟨rfl, hb1⟩
 have Iw := hb0.trans (hb1.mono (by simp))
 have hI1 := hI0.below hb1 (by simp)
 obtain ⟨c0, c1, c2⟩ := hI1.three
 by_cases hsf : Lk.aC k st = false
 . have hp : Lk.aO k st s.data.toList = 4 := by rw [Lk.aO, if_neg hk, if_neg hst, if_pos hsf]
   have hse : Lk.fM k st = 4 := by rw [Lk.fM, if_pos hsf]
   rw [hse]
   have HP := hide hp
   clear hp hse hsf hk hst hb0 hI0 hb1 hI1
   go_wp2_with fail
   go_ret
   exact ⟨je (uh HP).symm, Iw⟩
 have hse : Lk.fM k st = 0 := by rw [Lk.fM, if_neg hsf]
 rw [hse]
 clear hse
 have hlen : ((s.size : Nat) : Int) = (s.data.toList.length : Int) := by rw [af]
 have U2 : ∀ x, Lk.dF k s.size = x -> x ≠ 0 -> Lk.aO k st s.data.toList = x := by
  intro x hx hx0
  rw [Lk.aO, if_neg hk, if_neg hst, if_neg hsf]
  rw [Lk.dF, hlen] at hx
  by_cases hL : 64 < s.data.toList.length
  . rw [if_pos hL]
    rw [if_pos (by omega)] at hx
    exact hx
  . rw [if_neg hL]
    rw [if_neg (by omega)] at hx
    by_cases hf : Lk.aA k s.data.toList.length = false
    . rw [if_pos hf]; rw [if_pos hf] at hx; exact hx
    . rw [if_neg hf] at hx; omega
 have U3 : Lk.dF k s.size = 0 -> Lk.aO k st s.data.toList = Lk.bP k s.data.toList := by
  intro hx
  rw [Lk.aO, if_neg hk, if_neg hst, if_neg hsf]
  rw [Lk.dF, hlen] at hx
  by_cases hL : 64 < s.data.toList.length
  . rw [if_pos (by omega)] at hx; omega
  . rw [if_neg hL]
    rw [if_neg (by omega)] at hx
    by_cases hf : Lk.aA k s.data.toList.length = false
    . rw [if_pos hf] at hx; omega
    . rw [if_neg hf, Lk.bP]
 have HA := hide U2
 have HB := hide U3
 clear U2 U3 hlen hsf hk hst hb0 hI0 hb1
 go_wp2_with fail
 refine (nU k _ h0 h7 (by omega) _).mono ?_
 rintro e w2 ⟨rfl, hb2⟩
 have hbw2 := Iw.trans (hb2.mono Iw.size)
 have hI2 := hI1.below hb2 hI1.lt
 clear c0 c1 c2
 obtain ⟨c0, c1, c2⟩ := hI2.three
 generalize hle : Lk.dF k s.size = le
 have HL := hide hle
 clear hle hb2 hI1 Iw
 by_cases hz : le = 0
 . subst hz
   go_wp2_with fail
   refine (mM k s _ hs).mono ?_
   rintro e w3 ⟨rfl, hb3⟩
   have hbw3 := hbw2.trans (hb3.mono hbw2.size)
   clear hb3 c0 c1 c2
   have HE := hide (uh HB (uh HL))
   go_wp2_with fail
   go_ret
   exact ⟨je (uh HE).symm, hbw3⟩
 . have hne : (le != 0) = true := by rw [bne_iff_ne]; exact hz
   have HE := hide (uh HA le (uh HL) hz)
   clear hz
   go_wp2_with fail
   go_ret
   exact ⟨je (uh HE).symm, hbw2⟩
theorem LQ {a b : ByteArray} {x y : Int} (h : a = b) (h' : x = y) : Ending.returned (.tuple #[.string a, .int .i64 x]) = .returned (.tuple #[.string b, .int .i64 y]) := by rw [h, h']
def jm (k st : Int) (l : Lk.Bs) : ByteArray := if Lk.aO k st l = 0 then ⟨(Lk.packed k st l).toArray⟩ else ⟨#[]⟩
theorem Pj (k st : Int) (s : ByteArray) (w : World) (hs : s.size <= maxLen) (hne : Lk.aO k st s.data.toList ≠ 0) :
 Calls Tryz.prog 55 #[.agg #[.int .i64 k, .int .i64 st, .string s]] w fun e w' => e = .returned (.tuple #[.string (jm k st s.data.toList), .int .i64 (Lk.aO k st s.data.toList)]) ∧ Below w.heap.size w w' := by
 have hps : jm k st s.data.toList = ⟨#[]⟩ := by rw [jm, if_neg hne]
 have HA := hide (fun w => qp k st s w hs)
 rw [hps]
 generalize Lk.aO k st s.data.toList = pe at *
 have hpe : (pe != 0) = true := by rw [bne_iff_ne]; exact hne
 clear hps hne
 go_enter Tryz.func55, Tryz.ntmps55
 go_wp2_with fail
 refine (uh HA _).mono ?_
 rintro e w1 ⟨rfl, hb1⟩
 have Iw := ((Below.refl w.heap.size w).alloc (Nat.le_refl _) _).trans (hb1.mono (by simp))
 clear hb1
 go_wp2_with fail
 go_ret2
 exact ⟨rfl, Iw⟩
theorem LV (k st : Int) (s : ByteArray) (w : World) (hs : s.size <= maxLen) (he : Lk.aO k st s.data.toList = 0) (h0 : 0 <= k) (h7 : k <= 7) (hs0 : 0 <= st) (hs1 : st <= 268435455) (hl : s.size <= 64) :
 Calls Tryz.prog 55 #[.agg #[.int .i64 k, .int .i64 st, .string s]] w fun e w' => e = .returned (.tuple #[.string (jm k st s.data.toList), .int .i64 (Lk.aO k st s.data.toList)]) ∧ Below w.heap.size w w' := by
 have hps : jm k st s.data.toList = ⟨(Lk.packed k st s.data.toList).toArray⟩ := by rw [jm, if_pos he]
 have HA := hide (fun w => qp k st s w hs)
 have hI0 := Is.new w 79 [.int .i64 k, .int .i64 st, .string s]
 have hb0 : Below w.heap.size w (w.alloc (.cells #[.int .i64 k, .int .i64 st, .string s] 79)) := (Below.refl _ _).alloc (Nat.le_refl _) _
 rw [hps, he]
 rw [he] at HA
 clear hps
 have HE := hide he
 clear he
 obtain ⟨n, rfl⟩ := Int.eq_ofNat_of_zero_le hs0
 obtain ⟨m, rfl⟩ := Int.eq_ofNat_of_zero_le h0
 go_enter Tryz.func55, Tryz.ntmps55
 go_wp2_with fail
 refine (uh HA _).mono ?_
 rintro e w1 ⟨rfl, hb1⟩
 have hI1 := hI0.below hb1 (by simp)
 have Iw := hb0.trans (hb1.mono (by simp))
 obtain ⟨c0, c1, c2⟩ := hI1.three
 have hz := hI1.lt
 clear hb0 hI0 hb1
 go_wp2_with fail
 refine (lg w1.heap.size _ [] m n s _ (Nat.le_refl _) (World.ownsRow_nil _ _ _ _) (by simp) (by omega) (by omega) hl).mono ?_
 rintro e w2 ⟨v2, rfl, ho2, hb2, _⟩
 rw [List.nil_append] at ho2
 have hcv := jE ho2 (by simp [Lk.packed])
 have hbw2 := Iw.trans (hb2.mono Iw.size)
 clear hb2 ho2 c0 c1 c2
 go_wp2_with fail
 go_ret2
 exact ⟨rfl, hbw2⟩
theorem qw {k st : Int} {l : Lk.Bs} (h : Lk.aO k st l = 0) : 0 <= k ∧ k <= 7 ∧ 0 <= st ∧ st <= 268435455 ∧ l.length <= 64 ∧ Lk.aC k st = true ∧ Lk.aA k l.length = true ∧ Lk.ay k l = true := by
 unfold Lk.aO at h
 by_cases h1 : k < 0 ∨ 7 < k
 . rw [if_pos h1] at h; omega
 rw [if_neg h1] at h
 by_cases h2 : st < 0 ∨ 268435455 < st
 . rw [if_pos h2] at h; omega
 rw [if_neg h2] at h
 by_cases h3 : Lk.aC k st = false
 . rw [if_pos h3] at h; omega
 rw [if_neg h3] at h
 by_cases h4 : 64 < l.length
 . rw [if_pos h4] at h; omega
 rw [if_neg h4] at h
 by_cases h5 : Lk.aA k l.length = false
 . rw [if_pos h5] at h; omega
 rw [if_neg h5] at h
 by_cases h6 : Lk.ay k l = false
 . rw [if_pos h6] at h; omega
 simp only [Bool.not_eq_false] at h3 h5 h6
 exact ⟨by omega, by omega, by omega, by omega, by omega, h3, h5, h6⟩
theorem LW (k st : Int) (s : ByteArray) (w : World) (hs : s.size <= maxLen) :
 Calls Tryz.prog 55 #[.agg #[.int .i64 k, .int .i64 st, .string s]] w fun e w' => e = .returned (.tuple #[.string (jm k st s.data.toList), .int .i64 (Lk.aO k st s.data.toList)]) ∧ Below w.heap.size w w' := by
 by_cases h : Lk.aO k st s.data.toList = 0
 . obtain ⟨h0, h7, h1, h2, h3, _⟩ := qw h
   exact LV k st s w hs h h0 h7 h1 h2 (by rw [af]; exact h3)
 . exact Pj k st s w hs h
theorem F9 (fs : List Lk.Fr) : ∀ (i : Nat) (h : i < fs.length), (aZ fs)[i * 3]? = some (.int .i64 (fs[i].k : Int)) ∧ (aZ fs)[i * 3 + 1]? = some (.int .i64 (fs[i].st : Int)) ∧ (aZ fs)[i * 3 + 2]? = some (.string ⟨fs[i].d.toArray⟩) := by
 induction fs with
 | nil => intro i h; simp at h
 | cons f fs ih =>
   intro i h
   cases i with
   | zero => simp [aZ]
   | succ i =>
     have := ih i (by simpa using h)
     simp only [aZ, List.flatMap_cons, List.getElem_cons_succ] at this ⊢
     have e : (i + 1) * 3 = i * 3 + 3 := by omega
     rw [e]
     simpa using this
theorem jF {w : World} {B : Nat} {T : TypeId} {v : Value} {fs : List Lk.Fr} (h : w.ownsRow B T 3 v fs.length (aZ fs)) :
 (fs = [] ∧ v = .slice none 0 0) ∨ ∃ g cap, v = .slice (some ⟨g, 0, none⟩) fs.length cap ∧ B <= g ∧ g < w.heap.size ∧ fs.length <= cap ∧ ∀ i (h : i < fs.length), w.cell? ⟨g, i * 3, none⟩ = some (.int .i64 (fs[i].k : Int)) ∧ w.cell? ⟨g, i * 3 + 1, none⟩ = some (.int .i64 (fs[i].st : Int)) ∧ w.cell? ⟨g, i * 3 + 2, none⟩ = some (.string ⟨fs[i].d.toArray⟩) := by
 rcases h.2 with ⟨rfl, h0⟩ | ⟨g, cap, cur, rfl, hB, hg, hn, hc, hs, ht⟩
 . exact .inl ⟨List.eq_nil_of_length_eq_zero h0, rfl⟩
 . have hI : Is w g T cur.toList := by unfold Is; simpa using hg
   refine .inr ⟨g, cap, rfl, hB, hI.lt, hn, fun i hi => ?_⟩
   have e := F9 fs i hi
   have hc : ∀ j, j < fs.length * 3 -> w.cell? ⟨g, j, none⟩ = (aZ fs)[j]? := by
    intro j hj
    rw [hI.cell j, <- ht, List.getElem?_take_of_lt hj]
   rw [hc _ (by omega), hc _ (by omega), hc _ (by omega)]
   exact e
namespace Lk
theorem Ci : ∀ (l : Bs), 3 * (all l).1.length <= l.length := by
 intro l
 induction h : l.length using Nat.strongRecOn generalizing l with
 | _ n ih =>
   subst h
   cases hx : nx l with
   | more => rw [iU hx]; simp
   | err e => rw [mW hx]; simp
   | frame k st d n =>
     have hb := aV hx
     have := ih (l.drop n).length (by rw [List.length_drop]; omega) (l.drop n) rfl
     rw [ja hx]
     simp only [List.length_cons]
     rw [List.length_drop] at this
     omega
theorem lW : ∀ (l : Bs), (all l).2.1 = 0 -> (all l).2.2.length <= 72 := by
 intro l
 induction h : l.length using Nat.strongRecOn generalizing l with
 | _ n ih =>
   subst h
   cases hx : nx l with
   | more => rw [iU hx]; intro _; exact mV hx
   | err e => rw [mW hx]; simp
   | frame k st d n =>
     have hb := aV hx
     have := ih (l.drop n).length (by rw [List.length_drop]; omega) (l.drop n) rfl
     rw [ja hx]
     exact this
def bC (l : Bs) (f : Int) (s : Bs) : List Fr := if f = 0 then (all (l ++ s)).1 else []
def fU (l : Bs) (f : Int) (s : Bs) : Int := if f = 0 then ((all (l ++ s)).2.1 : Int) else f
def jK (l : Bs) (f : Int) (s : Bs) : Bs := if f = 0 then (all (l ++ s)).2.2 else l
end Lk
theorem LX {T : TypeId} {more : List Value} (b : Nat) (s t : ByteArray) (f : Int) (w : World) (hs : f = 0 -> s.size <= 72) (ht : t.size <= 2 ^ 39) (hI : Is w b T (.string s :: .int .i64 0 :: .int .i64 f :: more)) :
 Calls Tryz.prog 48 #[.pointer (some ⟨b, 0, none⟩), .string t] w fun e w' =>
  ∃ v, e = .returned (.tuple #[v, .int .i64 (Lk.fU s.data.toList f t.data.toList)])
   ∧ w'.ownsRow w.heap.size 79 3 v (Lk.bC s.data.toList f t.data.toList).length (aZ (Lk.bC s.data.toList f t.data.toList))
   ∧ (∃ s' : ByteArray, Is w' b T (.string s' :: .int .i64 0 :: .int .i64 (Lk.fU s.data.toList f t.data.toList) :: more) ∧ (Lk.fU s.data.toList f t.data.toList = 0 -> s'.data.toList = Lk.jK s.data.toList f t.data.toList ∧ s'.size <= 72))
   ∧ Turns b w w' := by
 unfold Lk.fU Lk.bC Lk.jK
 by_cases hf : f = 0
 . subst hf
   simp only [if_true]
   refine (xP b s t w (by have := hs rfl; omega) hI).mono ?_
   rintro e w' ⟨v, rfl, ho, hI', hT⟩
   refine ⟨v, rfl, ho, ⟨_, hI', fun h => ⟨rfl, ?_⟩⟩, hT⟩
   have := Lk.lW _ (by omega : (Lk.all (s.data.toList ++ t.data.toList)).2.1 = 0)
   rw [af]
   exact this
 . simp only [if_neg hf]
   refine (feed_bad b s t f w hf hI).mono ?_
   rintro e w' ⟨rfl, n, rfl⟩
   exact ⟨_, rfl, World.ownsRow_nil _ _ _ _, ⟨s, hI.drewN n, fun h => absurd h hf⟩, (Turns.refl _ _).drewN n⟩
open Go.RowKit
theorem LY (w : World) (fs : List Lk.Fr) (Ba Bb : Nat) (va vb : Value) (hl : fs.length <= 2 ^ 40) (ha : w.ownsRow Ba 79 3 va fs.length (aZ fs)) (hb : w.ownsRow Bb 66 3 vb fs.length (aZ fs)) :
 Calls Tryz.prog 57 #[va, vb] w fun e w' => e = .returned (.bool true) ∧ ∃ n, w' = w.drewN n := by
 rcases jF ha with ⟨rfl, rfl⟩ | ⟨g, cap, rfl, _, _, hcap, hca⟩
 . rcases jF hb with ⟨_, rfl⟩ | ⟨g', cap', rfl, _, _, hcap', hcb⟩
   all_goals
    clear ha hb
    go_enter Tryz.func57, Tryz.ntmps57
    go_wp2_with fail
    refine wp_loop_rounds 1 ?_
    rw [rounds_succ]
    go_wp2_with fail
    go_ret
    exact ⟨rfl, 0, rfl⟩
 . rcases jF hb with ⟨rfl, rfl⟩ | ⟨g', cap', rfl, _, _, hcap', hcb⟩
   . clear ha hb
     go_enter Tryz.func57, Tryz.ntmps57
     go_wp2_with fail
     refine wp_loop_rounds 1 ?_
     rw [rounds_succ]
     go_wp2_with fail
     go_ret
     exact ⟨rfl, 0, rfl⟩
   . clear ha hb
     go_enter Tryz.func57, Tryz.ntmps57
     go_wp2_with fail
     go_loopw [5] (fun i wr => ∃ k n : Nat, k <= fs.length ∧ i = .int .i64 k ∧ wr = w.drewN n) (fun i _ => fs.length - (intOf i).toNat)
     case atStart => exact ⟨0, 0, Nat.zero_le _, rfl, rfl⟩
     case round =>
      obtain ⟨k, n, hk, rfl, rfl⟩ := hrel
      by_cases hlt : k < fs.length
      . obtain ⟨a0, a1, a2⟩ := hca k hlt
        obtain ⟨b0, b1, b2⟩ := hcb k hlt
        have hlt' : (k : Int) < fs.length := by omega
        generalize fs[k] = f at *
        obtain ⟨fk, fst, fd⟩ := f
        dsimp only at a0 a1 a2 b0 b1 b2
        clear hca hcb
        go_wp2_with fail
        go_quiet (fail)
        go_wp2_with fail
        go_roundw
        case rel => exact ⟨k + 1, _, by omega, by go_num, rfl⟩
        case measure => simp [intOf]; omega
      . have hlt' : ¬ (k : Int) < fs.length := by omega
        clear hca hcb
        go_wp2_with fail
        go_ret
        exact ⟨rfl, _, rfl⟩
structure iD (B : Nat) (w : World) (E T : TypeId) (cs : List Value) (v : Value) (rs : List Nat) : Prop where
 own : w.ownsRow B E 1 v rs.length (rs.map ptr)
 nd : rs.Nodup
 is : ∀ r ∈ rs, B <= r ∧ Is w r T cs
theorem iD.nil (B : Nat) (w : World) (E T : TypeId) (cs : List Value) : iD B w E T cs gQ [] := ⟨World.ownsRow_nil _ _ _ _, List.nodup_nil, by simp⟩
theorem iD.grown {B : Nat} {w w' : World} {E T : TypeId} {cs : List Value} {v : Value} {rs : List Nat} (h : iD B w E T cs v rs) {row : Option Nat} (hg : w.grownBy w' row)
 (h1 : v.ownBlock = none ∨ v.ownBlock ≠ row) (h2 : ∀ r ∈ rs, some r ≠ row) : iD B w' E T cs v rs :=
 ⟨h.own.kept hg h1, h.nd, fun r hr => ⟨(h.is r hr).1, (h.is r hr).2.grown hg (h2 r hr)⟩⟩
theorem iD.below {B : Nat} {w w' : World} {E T : TypeId} {cs : List Value} {v : Value} {rs : List Nat} (h : iD B w E T cs v rs) (hb : Below w.heap.size w w') : iD B w' E T cs v rs :=
 h.grown (row := none) ⟨hb.os, hb.tape, hb.output, hb.size, fun i hi _ => hb.block i hi⟩ (by cases v.ownBlock <;> simp) (by simp)
theorem iD.alloc {B : Nat} {w : World} {E T : TypeId} {cs : List Value} {v : Value} {rs : List Nat} (h : iD B w E T cs v rs) (o : Obj) : iD B (w.alloc o) E T cs v rs :=
 h.below ((Below.refl _ _).alloc (Nat.le_refl _) o)
structure Making (B M : Nat) (pv : Value) (w : World) (vR vS : Value) (rs ss : List Nat) : Prop where
 made : Is w M 132 [vR, vS, gQ, gQ, gQ, gQ, pv]
 R : iD B w 133 85 [.string ⟨#[]⟩, .int .i64 0, .int .i64 0] vR rs
 S : iD B w 52 54 [.string ⟨#[]⟩, .int .i64 0] vS ss
theorem sN (b : Nat) (s t : ByteArray) (l : Lk.Bs) (f : Int) (w : World) (hs : f = 0 -> s.data.toList = l ∧ l.length <= 72) (ht : t.size <= 2 ^ 39) (hI : Is w b 54 [.string s, .int .i64 f]) :
 Calls Tryz.prog 21 #[.pointer (some ⟨b, 0, none⟩), .string t] w fun e w' =>
  ∃ v, e = .returned (.tuple #[v, .int .i64 (Lk.fU l f t.data.toList)])
   ∧ w'.ownsRow w.heap.size 66 3 v (Lk.bC l f t.data.toList).length (aZ (Lk.bC l f t.data.toList))
   ∧ (∃ s' : ByteArray, Is w' b 54 [.string s', .int .i64 (Lk.fU l f t.data.toList)] ∧ (Lk.fU l f t.data.toList = 0 -> s'.data.toList = Lk.jK l f t.data.toList))
   ∧ Turns b w w' := by
 unfold Lk.fU Lk.bC Lk.jK
 by_cases hf : f = 0
 . subst hf
   obtain ⟨rfl, hl⟩ := hs rfl
   simp only [if_true]
   refine (F8 b s t w (by rw [af]; omega) hI).mono ?_
   rintro e w' ⟨v, rfl, ho, ⟨R, hI', hR⟩, hT⟩
   exact ⟨v, rfl, ho, ⟨R, hI', fun h => hR (by omega)⟩, hT⟩
 . simp only [if_neg hf]
   refine (Cf b s t f w hf hI).mono ?_
   rintro e w' ⟨rfl, n, rfl⟩
   exact ⟨_, rfl, World.ownsRow_nil _ _ _ _, ⟨s, hI.drewN n, fun h => absurd h hf⟩, (Turns.refl _ _).drewN n⟩
def Pairs (w : World) (r s : Nat) : Prop := ∃ (t R : ByteArray) (f : Int), Is w r 85 [.string t, .int .i64 0, .int .i64 f] ∧ Is w s 54 [.string R, .int .i64 f] ∧ (f = 0 -> R.data.toList = t.data.toList ∧ t.size <= 72)
theorem Pairs.grown {w w' : World} {r s : Nat} (h : Pairs w r s) {row : Option Nat} (hg : w.grownBy w' row) (h1 : some r ≠ row) (h2 : some s ≠ row) : Pairs w' r s := by
 obtain ⟨t, R, f, a, b, c⟩ := h
 exact ⟨t, R, f, a.grown hg h1, b.grown hg h2, c⟩
structure Rig (B M gR gS cR cS : Nat) (pv : Value) (r0 r1 s0 s1 : Nat) (w : World) : Prop where
 made : Is w M 132 [.slice (some ⟨gR, 0, none⟩) 2 cR, .slice (some ⟨gS, 0, none⟩) 2 cS, gQ, gQ, gQ, gQ, pv]
 KY : ∃ t, Is w gR 133 (ptr r0 :: ptr r1 :: t)
 Pm : ∃ t, Is w gS 52 (ptr s0 :: ptr s1 :: t)
 p0 : Pairs w r0 s0
 p1 : Pairs w r1 s1
 ner : r0 ≠ r1
 nes : s0 ≠ s1
 hM : B <= M
 hR : B <= gR
 hS : B <= gS
 h0 : B <= r0 ∧ B <= s0
 h1 : B <= r1 ∧ B <= s1
 cR2 : 2 <= cR
 cS2 : 2 <= cS
theorem LZ : (Tryz.prog.info? 9).map (fun i => (i.zero, i.size, i.bytes)) = some (some (.string ⟨#[]⟩), 1, 16) := by kernel_rfl
def nY (w : World) (v : Value) (l : List Lk.Bs) : Prop :=
 (l = [] ∧ v = .slice none 0 0) ∨ ∃ g off cap cur, v = .slice (some ⟨g, off, none⟩) l.length cap ∧ Is w g 9 cur ∧ l.length <= cap ∧ cap <= maxLen ∧ off + cap <= cur.length ∧ ∀ (i : Nat) (x : Lk.Bs), l[i]? = some x -> cur[off + i]? = some (.string (bs x))
theorem nY.nil (w : World) : nY w gQ [] := .inl ⟨rfl, rfl⟩
theorem nY.form {w : World} {v : Value} {l : List Lk.Bs} (h : nY w v l) : ∃ a cap, v = .slice a l.length cap := by
 rcases h with ⟨rfl, rfl⟩ | ⟨g, off, cap, cur, rfl, _⟩
 . exact ⟨_, _, rfl⟩
 . exact ⟨_, _, rfl⟩
theorem nY.lt {w : World} {v : Value} {l : List Lk.Bs} (h : nY w v l) {i : Nat} (hi : v.ownBlock = some i) : i < w.heap.size := by
 rcases h with ⟨rfl, rfl⟩ | ⟨g, off, cap, cur, rfl, hI, _⟩
 . cases hi
 . cases hi
   exact hI.lt
theorem nY.only {S : Nat -> Prop} {w w' : World} {v : Value} {l : List Lk.Bs} (h : nY w v l) (k : Only S w w') (hn : ∀ i, v.ownBlock = some i -> ¬ S i) : nY w' v l := by
 rcases h with ⟨rfl, rfl⟩ | ⟨g, off, cap, cur, rfl, hI, h⟩
 . exact .inl ⟨rfl, rfl⟩
 . exact .inr ⟨g, off, cap, cur, rfl, hI.only k (hn g rfl), h⟩
theorem nY.ne {w : World} {v : Value} {l : List Lk.Bs} {b : Nat} {T : TypeId} {cs : List Value} (h : nY w v l) (h' : Is w b T cs) (hT : T ≠ 9) : some b ≠ v.ownBlock := by
 rcases h with ⟨rfl, rfl⟩ | ⟨g, off, cap, cur, rfl, hI, _⟩
 . intro e; cases e
 . intro e
   have e : b = g := by simpa [Value.ownBlock] using e
   exact h'.ne hI hT e
theorem nY.head {w : World} {v : Value} {x : Lk.Bs} {l : List Lk.Bs} (h : nY w v (x :: l)) : ∃ g off cap, v = .slice (some ⟨g, off, none⟩) (l.length + 1) cap ∧ g < w.heap.size ∧ l.length + 1 <= cap ∧ cap <= maxLen ∧ w.cell? ⟨g, off, none⟩ = some (.string (bs x)) ∧ nY w (.slice (some ⟨g, off + 1, none⟩) l.length (cap - 1)) l := by
 rcases h with ⟨h0, _⟩ | ⟨g, off, cap, cur, rfl, hI, h1, h2, h3, h4⟩
 . cases h0
 . simp only [List.length_cons] at h1
   refine ⟨g, off, cap, rfl, hI.lt, h1, h2, ?_, .inr ⟨g, off + 1, cap - 1, cur, rfl, hI, by omega, by omega, by omega, fun i y hy => ?_⟩⟩
   . rw [hI.cell]
     exact h4 0 x rfl
   . have := h4 (i + 1) y (by simpa using hy)
     rw [<- this]
     congr 1
     omega
def mO (l : List Lk.Bs) : List Value := l.map fun x => .string (bs x)
theorem nY.Ol {w : World} {B : Nat} {v : Value} {l : List Lk.Bs} (h : w.ownsRow B 9 1 v l.length (mO l)) : nY w v l := by
 rcases h.2 with ⟨rfl, h0⟩ | ⟨g, cap, cur, rfl, hB, hg, hn, hc, hs, ht⟩
 . exact .inl ⟨List.eq_nil_of_length_eq_zero h0, rfl⟩
 . have hI : Is w g 9 cur.toList := by unfold Is; simpa using hg
   refine .inr ⟨g, 0, cap, cur.toList, rfl, hI, hn, hc, ?_, fun i x hx => ?_⟩
   . rw [Array.length_toList]
     omega
   . have hi : i < l.length := (List.getElem?_eq_some_iff.1 hx).1
     have e : (cur.toList.take (l.length * 1))[i]? = (mO l)[i]? := by rw [ht]
     rw [List.getElem?_take_of_lt (by omega)] at e
     rw [Nat.zero_add, e]
     unfold mO
     rw [List.getElem?_map, hx]
     rfl
theorem nY.push {w : World} {v : Value} {l : List Lk.Bs} (h : nY w v l) (x : Lk.Bs) (a : Addr) (ha : w.cell? a = some (.string (bs x))) (hn : l.length <= 2 ^ 42) (ty : TypeId) :
 ∃ v' w', (Builtin.append_ #[31, 31] ty #[v, .slice (some a) 1 1]).run Tryz.prog w = .ok v' w' ∧ nY w' v' (l ++ [x]) ∧ (v'.ownBlock = v.ownBlock ∨ ∀ k, v'.ownBlock = some k -> w.heap.size <= k) ∧ Only (fun i => v.ownBlock = some i) w w' := by
 obtain ⟨i, hi, hz0, hz1, hz2⟩ := info_parts LZ
 have hadd : ∀ (b : Addr), b.add 0 = b := fun b => by simp [Addr.add]
 have hnews : ∀ j u, [(.string (bs x) : Value)][j]? = some u -> w.cell? (a.add j) = some u := fun j u hj => by
  cases j with
  | zero => rw [hadd, ha]; exact hj
  | succ j => cases hj
 have hmx : l.length + 1 <= maxLen := by unfold maxLen; omega
 have hone : ∀ u ∈ [(.string (bs x) : Value)], u.oneCell' = true := fun u hu => by simp at hu; subst hu; rfl
 have htx : mO l ++ [.string (bs x)] = mO (l ++ [x]) := by simp [mO]
 rcases h with ⟨rfl, rfl⟩ | ⟨g, off, cap, cur, rfl, hI, h1, h2, h3, h4⟩
 . obtain ⟨v', w', hr, ho, hg, _⟩ := run_append_own (P := Tryz.prog) w w.heap.size 31 ty 9 i (.string ⟨#[]⟩) 1 16 Tryz.underlying31 hi hz0 hz1 hz2 rfl (by omega) (.slice none 0 0) 0 [] (World.ownsRow_nil _ _ _ _) a 1 1 [.string (bs x)] rfl hnews hone (by omega) (by omega) (Nat.le_refl _)
   refine ⟨v', w', hr, nY.Ol (B := w.heap.size) (l := [] ++ [x]) ho, .inr (fun k hk => (ho.lt k hk).1), ?_⟩
   exact (Only.gV hg).mono (fun i hi => by cases hi)
 . by_cases hroom : l.length + 1 <= cap
   . have hlt : off + l.length < cur.length := by omega
     have hc0 : w.cell? ⟨g, off + l.length, none⟩ = some cur[off + l.length] := by rw [hI.cell, List.getElem?_eq_getElem hlt]
     have hr := run_append_room_cells (P := Tryz.prog) w 31 ty 9 i Tryz.underlying31 hi g off l.length cap a 1 1 [.string (bs x)] (by rw [hz1]; rfl) hnews hone hroom
      (fun j hj => by
       have : j = 0 := by simpa using hj
       subst this
       rw [hz1, Nat.mul_one, Nat.add_zero, hc0]
       rfl)
      (fun j _ => hI.free _)
     rw [hz1, Nat.mul_one] at hr
     have hset : w.setCells g (off + l.length) [.string (bs x)] = w.setCell ⟨g, off + l.length, none⟩ (.string (bs x)) := rfl
     rw [hset] at hr
     refine ⟨_, _, hr, .inr ⟨g, off, cap, cur.set (off + l.length) (.string (bs x)), by simp, hI.set _ _, by simpa using hroom, h2, by simpa using h3, fun j y hj => ?_⟩, .inl rfl, (Only.refl _ w).set g _ _ (fun _ => rfl)⟩
     rw [List.getElem?_append] at hj
     split at hj
     . rename_i hjl
       rw [List.getElem?_set_ne (by omega)]
       exact h4 j y hj
     . rename_i hjl
       have : j = l.length := by
        have := (List.getElem?_eq_some_iff.1 hj).1
        simp at this
        omega
       subst this
       simp at hj
       subst hj
       rw [List.getElem?_set_self hlt]
   . have holds : ∀ j u, (mO l)[j]? = some u -> w.cell? ((⟨g, off, none⟩ : Addr).add j) = some u := fun j u hj => by
      unfold mO at hj
      rw [List.getElem?_map] at hj
      cases hx : l[j]? with
      | none => rw [hx] at hj; cases hj
      | some y =>
        rw [hx] at hj
        cases hj
        have e : (⟨g, off, none⟩ : Addr).add j = ⟨g, off + j, none⟩ := by unfold Addr.add; split <;> simp_all
        rw [e, hI.cell]
        exact h4 j y hx
     obtain ⟨v', w', hr, ho, hg⟩ := run_append_arg_grows (P := Tryz.prog) w 31 ty 9 i (.string ⟨#[]⟩) 1 16 Tryz.underlying31 hi hz0 hz1 hz2 rfl (by omega) ⟨g, off, none⟩ l.length cap (mO l) (by simp [mO]) holds a 1 1 [.string (bs x)] rfl hnews (by omega) hmx (by omega)
     rw [htx] at ho
     refine ⟨v', w', hr, nY.Ol (B := w.heap.size) (by simpa using ho), .inr (fun k hk => (ho.lt k hk).1), ?_⟩
     exact (Only.gV hg).mono (fun i hi => by cases hi)
end Go.Proofs.YtbkpdapagfjmmaaGreatDoor
