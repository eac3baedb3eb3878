import Derived.Test.YtbkpdapagfjmmaaGreatDoorA8
import Derived.Test.YtbkpdapagfjmmaaGreatDoorA14
import Derived.Test.YtbkpdapagfjmmaaGreatDoorA5
set_option linter.unusedVariables false
set_option maxRecDepth 100000
set_option maxHeartbeats 16000000
namespace Go.Proofs.YtbkpdapagfjmmaaGreatDoor
open Go.RowKit
theorem I7 (b : Nat) (T : TypeId) (s : ByteArray) (p : Nat) (more : List Value) (w : World) (hs : s.size <= maxLen) (hp : s.size <= p) (hI : Is w b T (.string s :: .int .i64 p :: more)) :
 Calls Tryz.prog 131 #[.pointer (some ⟨b, 0, none⟩)] w fun e w' => e = .returned (.tuple #[.int .u8 0, .bool false]) ∧ Is w' b T (.string s :: .int .i64 p :: more) ∧ Turns b w w' := by
 have HE := hide (fun w hI => jh b T s p more w hs hI)
 go_enter Tryz.func131, Tryz.ntmps131
 go_wp2_with fail
 refine (uh HE _ hI).mono ?_
 rintro e w1 ⟨rfl, n1, rfl⟩
 have hd : decide (s.size <= p) = true := by simp; omega
 go_wp2_with fail
 go_ret2
 exact ⟨rfl, hI.drewN _, (Turns.refl _ _).drewN _⟩
theorem xN (b : Nat) (T : TypeId) (s : ByteArray) (p : Nat) (more : List Value) (w : World) (hs : s.size <= maxLen) (hp : p < s.size) (hI : Is w b T (.string s :: .int .i64 p :: more)) :
 Calls Tryz.prog 131 #[.pointer (some ⟨b, 0, none⟩)] w fun e w' => e = .returned (.tuple #[.int .u8 (s[p].toNat : Int), .bool true]) ∧ Is w' b T (.string s :: .int .i64 ((p + 1 : Nat) : Int) :: more) ∧ Turns b w w' := by
 have HE := hide (fun w hI => jh b T s p more w hs hI)
 unfold maxLen at hs
 have c0 : w.cell? ⟨b, 0, none⟩ = some (.string s) := hI.cell 0
 have c1 : w.cell? ⟨b, 1, none⟩ = some (.int .i64 p) := hI.cell 1
 have f1 : w.frozen? ⟨b, 1, none⟩ = false := hI.free 1
 go_enter Tryz.func131, Tryz.ntmps131
 go_wp2_with fail
 refine (uh HE _ hI).mono ?_
 rintro e w1 ⟨rfl, n1, rfl⟩
 have hd : decide (s.size <= p) = false := by simp; omega
 go_wp2_with fail
 go_quiet (fail)
 go_wp2_with fail
 go_ret2
 exact ⟨rfl, (hI.drewN _).set 1 _, ((Turns.refl _ _).drewN _).set 1 _⟩
theorem O9 (b : Nat) (T : TypeId) (s : ByteArray) (p n : Nat) (more : List Value) (w : World) (hs : s.size <= maxLen) (hp : p <= s.size) (hn : s.size < p + n) (hI : Is w b T (.string s :: .int .i64 p :: more)) :
 Calls Tryz.prog 137 #[.pointer (some ⟨b, 0, none⟩), .int .i64 n] w fun e w' => e = .returned (.tuple #[.string ⟨#[]⟩, .bool false]) ∧ Is w' b T (.string s :: .int .i64 (s.size : Int) :: more) ∧ Turns b w w' := by
 unfold maxLen at hs
 have c0 : w.cell? ⟨b, 0, none⟩ = some (.string s) := hI.cell 0
 have c1 : w.cell? ⟨b, 1, none⟩ = some (.int .i64 p) := hI.cell 1
 have f1 : w.frozen? ⟨b, 1, none⟩ = false := hI.free 1
 have hlt : (s.size : Int) - p < n := by omega
 go_enter Tryz.func137, Tryz.ntmps137
 go_wp2_with fail
 go_quiet (fail)
 go_wp2_with fail
 go_ret2
 exact ⟨rfl, (hI.drewN _).set 1 _, ((Turns.refl _ _).drewN _).set 1 _⟩
theorem LK (b : Nat) (T : TypeId) (s : ByteArray) (p n : Nat) (more : List Value) (w : World) (hs : s.size <= maxLen) (hn : p + n <= s.size) (hI : Is w b T (.string s :: .int .i64 p :: more)) :
 Calls Tryz.prog 137 #[.pointer (some ⟨b, 0, none⟩), .int .i64 n] w fun e w' => e = .returned (.tuple #[.string (s.extract p (p + n)), .bool true]) ∧ Is w' b T (.string s :: .int .i64 ((p + n : Nat) : Int) :: more) ∧ Turns b w w' := by
 unfold maxLen at hs
 have c0 : w.cell? ⟨b, 0, none⟩ = some (.string s) := hI.cell 0
 have c1 : w.cell? ⟨b, 1, none⟩ = some (.int .i64 p) := hI.cell 1
 have f1 : w.frozen? ⟨b, 1, none⟩ = false := hI.free 1
 have hlt : ¬ ((s.size : Int) - p < n) := by omega
 have hn' : (p : Int) + n <= s.size := by omega
 go_enter Tryz.func137, Tryz.ntmps137
 go_wp2_with fail
 go_quiet (fail)
 go_wp2_with fail
 go_quiet (fail)
 go_wp2_with fail
 go_ret2
 exact ⟨rfl, (hI.drewN _).set 1 _, ((Turns.refl _ _).drewN _).set 1 _⟩
theorem qW (b : Nat) (T : TypeId) (s : ByteArray) (p : Nat) (more : List Value) (w : World) (hs : s.size <= maxLen) (hI : Is w b T (.string s :: .int .i64 p :: more)) :
 Calls Tryz.prog 134 #[.pointer (some ⟨b, 0, none⟩)] w fun e w' => e = .returned (.int .i64 (if s.size <= p then 0 else 2)) ∧ ∃ n, w' = w.drewN n := by
 have HE := hide (fun w hI => jh b T s p more w hs hI)
 by_cases h : s.size <= p
 . have hd : decide (s.size <= p) = true := by simp; omega
   rw [if_pos h]
   go_enter Tryz.func134, Tryz.ntmps134
   go_wp2_with fail
   refine (uh HE _ hI).mono ?_
   rintro e w1 ⟨rfl, n1, rfl⟩
   go_wp2_with fail
   go_ret
   exact ⟨rfl, _, rfl⟩
 . have hd : decide (s.size <= p) = false := by simp; omega
   rw [if_neg h]
   go_enter Tryz.func134, Tryz.ntmps134
   go_wp2_with fail
   refine (uh HE _ hI).mono ?_
   rintro e w1 ⟨rfl, n1, rfl⟩
   go_wp2_with fail
   go_ret
   exact ⟨rfl, _, rfl⟩
theorem Turns.I9 {b : Nat} {w w1 : World} (h : Turns b w w1) {a : Addr} (ha : w.heap.size <= a.block) (v : Value) : Turns b w (w1.setCell a v) :=
 ⟨h.os, h.tape, h.output, by simpa using h.size, fun k hk hn => (heap_setCell_other _ _ _ _ (by omega)).trans (h.block k hk hn)⟩
theorem Pe {T : TypeId} {more : List Value} (b : Nat) (s : ByteArray) (p q : Nat) (f : Int) (w : World) (_hs : s.size <= maxLen) (hq : q <= s.size) (hr : s.size - q <= 1000)
 (hI : Is w b T (.string s :: .int .i64 p :: .int .i64 f :: more)) :
 Calls Tryz.prog 89 #[.pointer (some ⟨b, 0, none⟩), .int .i64 q, .int .i64 0] w fun e w' =>
  e = .returned (.tuple #[]) ∧ Is w' b T (.string (s.extract q s.size) :: .int .i64 0 :: .int .i64 0 :: more) ∧ Turns b w w' := by
 unfold maxLen at _hs
 have HC := hide (fun w => clone_any (s.extract q s.size) w (by rw [ByteArray.size_extract]; omega))
 have c0 : w.cell? ⟨b, 0, none⟩ = some (.string s) := hI.cell 0
 have hq' : (q : Int) <= s.size := by omega
 go_enter Tryz.func89, Tryz.ntmps89
 go_wp2_with fail
 refine (uh HC _).mono ?_
 rintro e w1 ⟨rfl, hb⟩
 have hI1 := hI.below hb hI.lt
 have hT1 := (Turns.refl b w).below hb
 have d0 := hI1.cell 0
 have d1 := hI1.cell 1
 have d2 := hI1.cell 2
 have f0 := hI1.free 0
 have f1 := hI1.free 1
 have f2 := hI1.free 2
 simp only [List.getElem?_cons_zero, List.getElem?_cons_succ] at d0 d1 d2
 clear hb hI c0
 go_wp2_with fail
 go_end0
 exact ⟨rfl, ((hI1.set 0 _).set 1 _).set 2 _, ((hT1.set 0 _).set 1 _).set 2 _⟩
theorem LM {T : TypeId} {more : List Value} (b : Nat) (s : ByteArray) (p q : Nat) (f e0 : Int) (w : World) (he : e0 ≠ 0)
 (hI : Is w b T (.string s :: .int .i64 p :: .int .i64 f :: more)) :
 Calls Tryz.prog 89 #[.pointer (some ⟨b, 0, none⟩), .int .i64 q, .int .i64 e0] w fun e w' =>
  e = .returned (.tuple #[]) ∧ Is w' b T (.string ⟨#[]⟩ :: .int .i64 0 :: .int .i64 e0 :: more) ∧ Turns b w w' := by
 have he' : (e0 == 0) = false := by simpa using he
 have d0 := hI.cell 0
 have d1 := hI.cell 1
 have d2 := hI.cell 2
 have f0 := hI.free 0
 have f1 := hI.free 1
 have f2 := hI.free 2
 simp only [List.getElem?_cons_zero, List.getElem?_cons_succ] at d0 d1 d2
 clear he
 go_enter Tryz.func89, Tryz.ntmps89
 go_wp2_with fail
 go_end0
 exact ⟨rfl, ((hI.set 0 _).set 1 _).set 2 _, (((Turns.refl _ _).set 0 _).set 1 _).set 2 _⟩
theorem BX (a b x y : Int) (w : World) : (Instr.field 275 (.agg #[.int .i64 a, .int .i64 b, .int .i64 x, .int .i64 y]) 0).run Tryz.prog w = .ok (.agg #[.int .i64 a, .int .i64 b]) w := by kernel_rfl
theorem BZ (a b x y : Int) (w : World) : (Instr.field 275 (.agg #[.int .i64 a, .int .i64 b, .int .i64 x, .int .i64 y]) 1).run Tryz.prog w = .ok (.agg #[.int .i64 x, .int .i64 y]) w := by kernel_rfl
theorem Ja {k a b x y s : Int} (h : zM k a b x y) (h0 : 0 <= k) (h7 : k <= 7) (hs0 : 0 <= s) (hs : s <= 268435455) : Lk.aC k s = decide (a <= s ∧ s <= b) := by
 unfold zM qm at h
 unfold Lk.aC
 rcases I8 h0 h7 with rfl | rfl | rfl | rfl | rfl | rfl | rfl | rfl <;> simp at h <;> obtain ⟨rfl, rfl, -, -⟩ := h <;> rw [Bool.eq_iff_iff] <;> simp <;> omega
theorem Jb {k a b x y n : Int} (h : zM k a b x y) (h0 : 0 <= k) (h7 : k <= 7) (hs0 : 0 <= n) (hs : n <= 64) : Lk.aA k n = decide (x <= n ∧ n <= y) := by
 unfold zM qm at h
 unfold Lk.aA
 rcases I8 h0 h7 with rfl | rfl | rfl | rfl | rfl | rfl | rfl | rfl <;> simp at h <;> obtain ⟨-, -, rfl, rfl⟩ := h <;> rw [Bool.eq_iff_iff] <;> simp <;> omega
theorem nT (k s : Int) (h0 : 0 <= k) (h7 : k <= 7) (hs0 : 0 <= s) (hs : s <= 268435455) (w : World) :
 Calls Tryz.prog 135 #[.int .i64 k, .int .i64 s] w fun e w' => e = .returned (.int .i64 (Lk.fM k s)) ∧ Below w.heap.size w w' := by
 have f0 := BX
 go_enter Tryz.func135, Tryz.ntmps135
 go_wp2_with fail
 refine (zN k h0 h7 _).mono ?_
 rintro e w1 ⟨a, b, x, y, rfl, H, hb1⟩
 go_wp2_with fail
 refine (gZ _ _ _ _).mono ?_
 rintro e w2 ⟨rfl, hb2⟩
 have hb := hb1.trans (hb2.mono hb1.size)
 have HS := hide (Ja H h0 h7 hs0 hs)
 generalize decide (a <= s ∧ s <= b) = d at *
 cases d
 all_goals
  go_wp2_with fail
  go_ret
  exact ⟨je (by rw [Lk.fM, uh HS]; rfl), hb⟩
theorem nU (k n : Int) (h0 : 0 <= k) (h7 : k <= 7) (hn0 : 0 <= n) (w : World) :
 Calls Tryz.prog 136 #[.int .i64 k, .int .i64 n] w fun e w' => e = .returned (.int .i64 (Lk.dF k n)) ∧ Below w.heap.size w w' := by
 by_cases hn : 64 < n
 . go_enter Tryz.func136, Tryz.ntmps136
   go_wp2_with fail
   go_ret
   exact ⟨je (by rw [Lk.dF, if_pos hn]), Below.refl _ _⟩
 have f0 := BZ
 go_enter Tryz.func136, Tryz.ntmps136
 go_wp2_with fail
 refine (zN k h0 h7 _).mono ?_
 rintro e w1 ⟨a, b, x, y, rfl, H, hb1⟩
 go_wp2_with fail
 refine (gZ _ _ _ _).mono ?_
 rintro e w2 ⟨rfl, hb2⟩
 have hb := hb1.trans (hb2.mono hb1.size)
 have HS := hide (Jb H h0 h7 hn0 (by omega))
 generalize decide (x <= n ∧ n <= y) = d at *
 cases d
 all_goals
  go_wp2_with fail
  go_ret
  exact ⟨je (by rw [Lk.dF, if_neg (by omega), uh HS]; rfl), hb⟩
theorem FZ (l : Lk.Bs) : Lk.eG l = ((Lk.rd 0 0 l).good && decide (l.length <= (Lk.rd 0 0 l).at 0 l.length)) := by
 unfold Lk.eG
 cases h : Lk.rd 0 0 l with
 | short => rfl
 | bad k => rfl
 | ok n k =>
   have := Lk.bn l 0 0 n k h
   simp only [Lk.Rd.good, Lk.Rd.at, Bool.true_and]
   rw [Bool.eq_iff_iff]
   simp
   omega
theorem Cb (l : Lk.Bs) : Lk.eG l = (decide ((Lk.rd 0 0 l).jQ 0 < 0) && (!(Lk.rd 0 0 l).gq && decide ((Lk.rd 0 0 l).next 0 = (l.length : Int)))) := by
 unfold Lk.eG
 cases h : Lk.rd 0 0 l with
 | short => rfl
 | bad k =>
   have hb : ¬ ((Lk.Rd.bad k).jQ 0 < 0) := by simp only [Lk.Rd.jQ]; omega
   rw [decide_eq_false hb]; rfl
 | ok n k =>
   rw [Bool.eq_iff_iff]
   simp [Lk.Rd.jQ, Lk.Rd.gq, Lk.Rd.next]
   omega
theorem uO (k : Int) (s : ByteArray) (w : World) (hs : s.size <= maxLen) (hk : k = 3 ∨ k = 4 ∨ k = 7) :
 Calls Tryz.prog 138 #[.int .i64 k, .string s] w fun e w' => e = .returned (.int .i64 (Lk.bP k s.data.toList)) ∧ Below w.heap.size w w' := by
 have HN := hide (fun b T w hI => iZ b T s 0 [] w hs (Nat.zero_le _) hI)
 have HE := hide (fun b T p w hI => jh b T s p [] w hs hI)
 have hg := FZ s.data.toList
 rw [<- af] at hg
 have hpe : Lk.bP k s.data.toList = if Lk.eG s.data.toList = false then 6 else 0 := by
  unfold Lk.bP Lk.ay
  rw [if_pos hk]
 rw [hg] at hpe
 clear hg
 generalize Lk.bP k s.data.toList = pe at *
 generalize hr : Lk.rd 0 0 s.data.toList = r at *
 have HG := hide hpe
 have HR := hide hr
 clear hr hpe
 rcases hk with rfl | rfl | rfl
 all_goals
  go_enter Tryz.func138, Tryz.ntmps138
  go_wp2_with fail
  refine (uh HN _ 83 _ (Is.new w 83 [.string s, .int .i64 0])).mono ?_
  rw [List.drop_zero, uh HR]
  rintro e w1 ⟨rfl, hI, hT⟩
  have hb1 : Below w.heap.size w w1 := hT.toBelow ((Below.refl _ _).alloc (Nat.le_refl _) _) (Nat.le_refl _) (by simp)
  generalize r.val = v
  generalize hp : Lk.Rd.at 0 s.size r = p at *
  generalize hg : r.good = g
  have HGD := hide hg
  clear hp hg
  cases g
  . go_wp2_with fail
    go_ret
    exact ⟨je (by rw [uh HG, uh HGD]; rfl), hb1⟩
  . go_wp2_with fail
    refine (uh HE _ _ _ _ hI).mono ?_
    rintro e w2 ⟨rfl, n2, rfl⟩
    generalize hd : decide (s.size <= p) = d
    have HD := hide hd
    clear hd
    cases d
    all_goals
     go_wp2_with fail
     go_ret
     exact ⟨je (by rw [uh HG, uh HGD, uh HD]; rfl), Below.drewN hb1 _⟩
theorem xO (k : Int) (s : ByteArray) (w : World) (hk : ¬ (k = 3 ∨ k = 4 ∨ k = 7)) :
 Calls Tryz.prog 138 #[.int .i64 k, .string s] w fun e w' => e = .returned (.int .i64 (Lk.bP k s.data.toList)) ∧ Below w.heap.size w w' := by
 have hpe : Lk.bP k s.data.toList = 0 := by
  unfold Lk.bP Lk.ay
  rw [if_neg hk]; rfl
 rw [hpe]
 have h3 : (k == 3) = false := by simp; omega
 have h4 : (k == 4) = false := by simp; omega
 have h7 : (k == 7) = false := by simp; omega
 clear hpe hk
 go_enter Tryz.func138, Tryz.ntmps138
 go_wp2_with fail
 go_ret
 exact ⟨rfl, Below.refl _ _⟩
theorem mM (k : Int) (s : ByteArray) (w : World) (hs : s.size <= maxLen) :
 Calls Tryz.prog 138 #[.int .i64 k, .string s] w fun e w' => e = .returned (.int .i64 (Lk.bP k s.data.toList)) ∧ Below w.heap.size w w' := by
 by_cases hk : k = 3 ∨ k = 4 ∨ k = 7
 . exact uO k s w hs hk
 . exact xO k s w hk
theorem sF (k : Int) (s : ByteArray) (w : World) (hs : s.size <= 2 ^ 62) (hk : k = 3 ∨ k = 4 ∨ k = 7) :
 Calls Tryz.prog 87 #[.int .i64 k, .string s] w fun e w' => e = .returned (.bool (Lk.ay k s.data.toList)) ∧ Below w.heap.size w w' := by
 have HN := hide (fun w => kz s 0 w hs (Nat.zero_le _))
 have hg := Cb s.data.toList
 rw [<- af] at hg
 have hpe : Lk.ay k s.data.toList = Lk.eG s.data.toList := by
  unfold Lk.ay
  rw [if_pos hk]
 rw [hg] at hpe
 clear hg
 generalize Lk.ay k s.data.toList = pe at *
 generalize hr : Lk.rd 0 0 s.data.toList = r at *
 have HG := hide hpe
 have HR := hide hr
 clear hr hpe
 rcases hk with rfl | rfl | rfl
 all_goals
  go_enter Tryz.func87, Tryz.ntmps87
  go_wp2_with fail
  refine (uh HN _).mono ?_
  rw [List.drop_zero, uh HR]
  rintro e w1 ⟨rfl, hb1⟩
  generalize r.val = v
  generalize hx : r.jQ 0 = x at *
  generalize hy : r.next 0 = y at *
  generalize hz : r.gq = z at *
  clear hx hy hz
  by_cases hx : x < 0
  . cases z
    . by_cases hyy : y = (s.size : Int)
      . have hyb : (y == (s.size : Int)) = true := by simpa using hyy
        have H := hide (decide_eq_true hyy)
        clear hyy
        go_wp2_with fail
        go_ret
        exact ⟨aH (by rw [uh HG, uh H, decide_eq_true hx]; simp), hb1.alloc hb1.size _⟩
      . have hyb : (y == (s.size : Int)) = false := by simpa using hyy
        have H := hide (decide_eq_false hyy)
        clear hyy
        go_wp2_with fail
        go_ret
        exact ⟨aH (by rw [uh HG, uh H, decide_eq_true hx]; simp), hb1.alloc hb1.size _⟩
    . go_wp2_with fail
      go_ret
      exact ⟨aH (by rw [uh HG]; simp), hb1.alloc hb1.size _⟩
  . have H := hide (decide_eq_false hx)
    go_wp2_with fail
    go_ret
    exact ⟨aH (by rw [uh HG, uh H]; simp), hb1.alloc hb1.size _⟩
theorem uP (k : Int) (s : ByteArray) (w : World) (hk : ¬ (k = 3 ∨ k = 4 ∨ k = 7)) :
 Calls Tryz.prog 87 #[.int .i64 k, .string s] w fun e w' => e = .returned (.bool (Lk.ay k s.data.toList)) ∧ Below w.heap.size w w' := by
 have hpe : Lk.ay k s.data.toList = true := by
  unfold Lk.ay
  rw [if_neg hk]
 rw [hpe]
 have h3 : (k != 3) = true := by rw [bne_iff_ne]; omega
 have h4 : (k != 4) = true := by rw [bne_iff_ne]; omega
 have h7 : (k != 7) = true := by rw [bne_iff_ne]; omega
 clear hpe hk
 go_enter Tryz.func87, Tryz.ntmps87
 go_wp2_with fail
 go_ret
 exact ⟨rfl, Below.refl _ _⟩
theorem jl (k : Int) (s : ByteArray) (w : World) (hs : s.size <= 2 ^ 62) :
 Calls Tryz.prog 87 #[.int .i64 k, .string s] w fun e w' => e = .returned (.bool (Lk.ay k s.data.toList)) ∧ Below w.heap.size w w' := by
 by_cases hk : k = 3 ∨ k = 4 ∨ k = 7
 . exact sF k s w hs hk
 . exact uP k s w hk
theorem sO (n : Nat) (h : n < 128) (w : World) :
 Calls Tryz.prog 99 #[.int .i64 n] w fun e w' => e = .returned (.string ⟨(Lk.wire n).toArray⟩) ∧ Below w.heap.size w w' := by
 have k1 := oW
 go_enter Tryz.func99, Tryz.ntmps99
 go_wp2_with fail
 go_ret
 exact ⟨dY (by rw [Lk.gu n h]), (Below.refl _ _).alloc (Nat.le_refl _) _⟩
theorem Po (n : Nat) (k : UInt8) (l : Array UInt8) (hk : k = UInt8.ofNat (128 + n % 128)) (h : 128 <= n) (hl : Hid ((Lk.wire (n / 128)).toArray = l)) : (⟨#[k]⟩ : ByteArray) ++ ⟨l⟩ = ⟨(Lk.wire n).toArray⟩ := by
 rw [<- uh hl, Lk.iG n (by omega), hk]
 exact ByteArray.mk_append_mk [_] _
theorem xQ (n : Nat) (h : 128 <= n) (hn : n <= 268435455) (w : World) (ih : Hid (∀ (m : Int) w, m = ((n / 128 : Nat) : Int) -> Calls Tryz.prog 99 #[.int .i64 m] w fun e w' => e = .returned (.string ⟨(Lk.wire (n / 128)).toArray⟩) ∧ Below w.heap.size w w')) :
 Calls Tryz.prog 99 #[.int .i64 n] w fun e w' => e = .returned (.string ⟨(Lk.wire n).toArray⟩) ∧ Below w.heap.size w w' := by
 have k1 := oW
 have k2 := fun W => rQ W w.heap.size (IntKind.u8.wrap (IntKind.i64.wrap (128 + (n : Int).tmod 128)))
 have hn' : ¬ (n : Int) < 128 := by omega
 have hsz := Lk.au (n / 128) (by omega)
 generalize hl : (Lk.wire (n / 128)).toArray = l at ih
 have hl4 : l.size <= 4 := by rw [<- hl]; simpa using hsz
 have XQ : 1 + l.size <= 9223372036854775807 := by omega
 clear hsz
 have HL := hide hl
 clear hl
 go_enter Tryz.func99, Tryz.ntmps99
 go_wp2_with fail
 go_region_with (go_at_call 99; refine (uh ih _ _ ?_).mono ?_; (simp [IntKind.wrap_i64]; omega); rintro e w1 ⟨rfl, hb⟩; obtain ⟨hc, hf⟩ := TK hb)
 all_goals go_wp2_with fail
 all_goals go_ret
 . exact ⟨dY (Po n _ l (by first | rfl | (congr 1; omega) | simp) h HL), (((Below.refl _ _).alloc (Nat.le_refl _) _).drew).trans (hb.mono (by simp))⟩
 . exact ⟨dY (Po n _ l (by first | rfl | (congr 1; omega) | simp) h HL), (((Below.refl _ _).alloc (Nat.le_refl _) _).drew).trans (hb.mono (by simp))⟩
 . refine ⟨dY (Po n _ l (by first | rfl | (congr 1; omega) | simp) h HL), ?_⟩
   have hb0 := (Below.refl w.heap.size w).drew.trans hb
   exact hb0.alloc hb0.size _
theorem kD : ∀ (n : Nat) (m : Int) (w : World), m = (n : Int) -> n <= 268435455 ->
 Calls Tryz.prog 99 #[.int .i64 m] w fun e w' => e = .returned (.string ⟨(Lk.wire n).toArray⟩) ∧ Below w.heap.size w w' := by
 intro n
 induction n using Nat.strongRecOn with
 | _ n ih =>
   intro m w hm hn
   subst hm
   by_cases h : n < 128
   . exact sO n h w
   . exact xQ n (by omega) hn w (hide fun m w hm => ih (n / 128) (by omega) m w hm (by omega))
end Go.Proofs.YtbkpdapagfjmmaaGreatDoor

namespace Go.Proofs.YtbkpdapagfjmmaaGreatDoor.Lk
def Pv (f : Fr) : Int := if f.k = 4 ∧ f.st = 0 then (numOf f.d : Int) else 0
def Px (side : Nat) (f : Fr) (m : Nat) : Int := if f.k = 4 ∧ f.st = 2 * m + 1 + side then (numOf f.d : Int) else 0
structure wo (e : En) (A : Int) (t : Nat -> Int) : Prop where
 all : (e.all : Int) <= A
 own : ∀ m o, e.own[m]? = some o -> (o.cr : Int) <= t m
 new : ∀ m, e.own.length <= m -> (e.win : Int) <= t m
theorem wo.same {e e' : En} {A : Int} {t : Nat -> Int} (h : wo e A t) (h1 : e'.all = e.all) (h2 : e'.own = e.own) (h3 : e'.win = e.win) : wo e' A t :=
 ⟨by rw [h1]; exact h.all, by rw [h2]; exact h.own, by rw [h2, h3]; exact h.new⟩
theorem wo.mono {e : En} {A A' : Int} {t t' : Nat -> Int} (h : wo e A t) (hA : A <= A') (ht : ∀ m, t m <= t' m) : wo e A' t' :=
 ⟨by have := h.all; omega, fun m o ho => by have := h.own m o ho; have := ht m; omega, fun m hm => by have := h.new m hm; have := ht m; omega⟩
def Tc (l : List Fr) : Int := (l.map Pv).sum
def Td (side : Nat) (l : List Fr) (m : Nat) : Int := (l.map fun f => Px side f m).sum
def paid (f : Fr) : Int := if f.k = 1 ∨ f.k = 2 then (f.d.length : Int) else 0
def Jl (side : Nat) (f : Fr) (m : Nat) : Int := if (f.k = 1 ∨ f.k = 2) ∧ f.st = 2 * m + 1 + side then (f.d.length : Int) else 0
def Wj (side n : Nat) : Int -> (Nat -> Int) -> List Fr -> Prop
 | _, _, [] => True
 | A, t, f :: l => ((f.k = 1 ∨ f.k = 2) -> (∃ m, m < n ∧ f.st = 2 * m + 1 + side ∧ 0 <= t m - f.d.length) ∧ 0 <= A - f.d.length) ∧ Wj side n (A - paid f) (fun m => t m - Jl side f m) l
def TS (l : List Fr) : Int := (l.map paid).sum
def Tf (side : Nat) (l : List Fr) (m : Nat) : Int := (l.map fun f => Jl side f m).sum
end Go.Proofs.YtbkpdapagfjmmaaGreatDoor.Lk
