import Derived.Test.YtbkpdapagfjmmaaGreatDoorA8
import Derived.Test.YtbkpdapagfjmmaaGreatDoorA6
set_option linter.unusedVariables false
set_option maxRecDepth 100000
set_option maxHeartbeats 16000000
namespace Go.Proofs.YtbkpdapagfjmmaaGreatDoor
open Go.RowKit
theorem dU (n : Int) (w : World) : Calls Tryz.prog 83 #[.int .i64 n] w fun e w' => e = .returned (.bool (decide (0 <= n) && decide (n <= 268435455))) ∧ w' = w := by
 by_cases h : 0 <= n
 . have hd : decide (0 <= n) = true := by simpa using h
   go_enter Tryz.func83, Tryz.ntmps83
   go_wp2_with fail
   go_ret
   exact ⟨aH (by first | rfl | (rw [hd]; simp) | simp [hd]), rfl⟩
 . have hd : decide (0 <= n) = false := by simpa using h
   go_enter Tryz.func83, Tryz.ntmps83
   go_wp2_with fail
   go_ret
   exact ⟨aH (by first | rfl | (rw [hd]; simp) | simp [hd]), rfl⟩
theorem BR (k st : Nat) (s : ByteArray) (xs : List UInt8) : bytesV ((xs ++ [UInt8.ofNat k]) ++ (Lk.wire st ++ Lk.wire s.size)) ++ Lib.strCells s = bytesV (xs ++ Lk.packed k st s.data.toList) := by
 rw [mJ, bytesV, bytesV, bytesV, <- List.map_append, Lk.packed, Int.toNat_natCast, Int.toNat_natCast, <- af]
 simp
theorem zF (k st : Nat) (s : ByteArray) (xs : List UInt8) : xs.length + 1 + ((Lk.wire st).length + (Lk.wire s.size).length) + s.size = (xs ++ Lk.packed k st s.data.toList).length := by
 rw [Lk.packed, Int.toNat_natCast, Int.toNat_natCast, <- af]
 simp only [List.length_append, List.length_cons, <- af]
 omega
theorem LC {w : World} {B : Nat} {e : TypeId} {size n m : Nat} {v : Value} {xs : List Value} (hn : m = n) (h : w.ownsRow B e size v n xs) : w.ownsRow B e size v m xs := by rw [hn]; exact h
theorem IV (k : Nat) (hk : k <= 7) : (IntKind.u8.wrap (k : Int)) = ((UInt8.ofNat k).toNat : Int) := by
 rw [<- oZ k (by omega)]
 obtain rfl | rfl | rfl | rfl | rfl | rfl | rfl | rfl : k = 0 ∨ k = 1 ∨ k = 2 ∨ k = 3 ∨ k = 4 ∨ k = 5 ∨ k = 6 ∨ k = 7 := by omega
 all_goals decide
theorem lg (B : Nat) (v : Value) (xs : List UInt8) (k st : Nat) (s : ByteArray) (w : World) (hB : B <= w.heap.size) (ho : w.ownsRow B 5 1 v xs.length (bytesV xs)) (hl : xs.length <= 2 ^ 44) (hk : k <= 7) (hst : st <= 268435455) (hs : s.size <= 64) :
 Calls Tryz.prog 36 #[v, .agg #[.int .i64 (k : Int), .int .i64 (st : Int), .string s]] w fun e w' =>
  ∃ v', e = .returned v' ∧ w'.ownsRow B 5 1 v' (xs ++ Lk.packed k st s.data.toList).length (bytesV (xs ++ Lk.packed k st s.data.toList)) ∧ Below B w w' ∧ bZ 5 w w' := by
 obtain ⟨i, hi, hz0, hz1, hz2⟩ := info_parts BQ
 have hI0 := Is.new w 79 [.int .i64 (k : Int), .int .i64 (st : Int), .string s]
 have hb0 := (Below.refl B w).alloc hB (.cells #[.int .i64 (k : Int), .int .i64 (st : Int), .string s] 79)
 have hk0 := (bZ.refl 5 w).alloc (.cells #[.int .i64 (k : Int), .int .i64 (st : Int), .string s] 79)
 have ho0 := ho.alloc (.cells #[.int .i64 (k : Int), .int .i64 (st : Int), .string s] 79)
 have hw4 := Lk.au st hst
 have hw5 := Lk.au s.size (by omega)
 have HB0 := hide hb0
 have HK0 := hide hk0
 have HI0 := hide hI0
 clear hb0 hk0 hI0
 have hkk : (k : Int) <= 7 := by omega
 go_enter Tryz.func36, Tryz.ntmps36
 go_wp2_with (at_builtin; refine wpList_append_own _ rfl _ _ 78 rfl B 5 i _ 1 1 Tryz.underlying78 hi hz0 hz1 hz2 rfl (by decide) _ xs.length (bytesV xs) rfl (ho0.alloc _) ⟨w.heap.size + 1, 0, none⟩ 1 1 [.int .u8 (k : Int)] rfl rfl ?hnews ?h1 ?h63 ?hby ?hba ?_)
 case hnews => exact vM _ _ _ _ (by simp)
 case h1 => simp [Value.oneCell']
 case h63 => unfold maxLen; omega
 case hby => omega
 case hba => first | omega | (simp; omega)
 intro v1 w1 ho1 hg1 _
 rw [nz xs (UInt8.ofNat k) _ (by first | exact IV k hk | exact oZ k (by omega))] at ho1
 have hoa := ho0.alloc (.cells #[.int .u8 (k : Int)] 5)
 have hIa := (uh HI0).alloc (.cells #[.int .u8 (k : Int)] 5)
 have hI1 := hIa.grown hg1 (own_ne hoa hIa (nbq rfl))
 have hb1 : Below B w w1 := (((uh HB0).alloc (by simp; omega) _)).grown hg1 (by simp; omega) (fun j hj => (ho.lt j hj).1)
 have hk1 : bZ 5 w w1 := ((uh HK0).alloc (.cells #[.int .u8 (k : Int)] 5)).grown hg1 hoa
 have hs1 : w.heap.size < w1.heap.size := hI1.lt
 have c1 := hI1.cell 1
 have c2 := hI1.cell 2
 simp only [List.getElem?_cons_zero, List.getElem?_cons_succ] at c1 c2
 have hl1 : xs.length + 1 = (xs ++ [UInt8.ofNat k]).length := by simp
 rw [hl1] at ho1
 clear hg1 ho0 hoa hIa HB0 HK0 HI0 ho
 generalize hys : xs ++ [UInt8.ofNat k] = ys at ho1
 have hyl : ys.length = xs.length + 1 := by rw [<- hys]; simp
 have HYS := hide hys
 clear hys hl1
 go_wp2_with fail
 refine (fP B v1 ys st hst _ (by omega) ho1 (by omega)).mono ?_
 rintro e w2 ⟨v2, rfl, ho2, hb2, hk2⟩
 have hI2 := hk2 _ _ _ (nbq rfl) hI1
 have hbw2 := hb1.trans hb2
 have UR := hk1.trans hk2
 have hs2 : w.heap.size < w2.heap.size := hI2.lt
 have c2 := hI2.cell 2
 simp only [List.getElem?_cons_zero, List.getElem?_cons_succ] at c2
 clear hI1 hb1 hk1 hb2 hk2 ho1 c1
 go_wp2_with fail
 refine (fP B v2 _ s.size (by omega) _ (by omega) ho2 (by simp; omega)).mono ?_
 rintro e w3 ⟨v3, rfl, ho3, hb3, hk3⟩
 have hI3 := hk3 _ _ _ (nbq rfl) hI2
 have hbw3 := hbw2.trans hb3
 have UT := UR.trans hk3
 have hs3 : w.heap.size < w3.heap.size := hI3.lt
 have c2 := hI3.cell 2
 simp only [List.getElem?_cons_zero, List.getElem?_cons_succ] at c2
 clear hI2 hbw2 UR hb3 hk3 ho2
 go_wp2_with (at_builtin; refine Lib.wpList_append_own_string _ rfl _ _ 78 9 rfl B 5 i Tryz.underlying78 Tryz.underlying9 hi hz0 hz1 hz2 _ _ _ rfl ho3 s rfl ?h63 ?hby ?hba ?_)
 case h63 => unfold maxLen; simp; omega
 case hby => simp; omega
 case hba => omega
 intro v4 w4 ho4 hg4 _
 rw [<- uh HYS, BR] at ho4
 have ho4 := LC (m := (xs ++ Lk.packed k st s.data.toList).length) (by first | exact (zF k st s xs).symm | (simp only [List.length_append, List.length_cons, List.length_nil]; have := zF k st s xs; simp only [List.length_append] at this; omega)) ho4
 have Q3 : Below B w w4 := hbw3.grown hg4 (by omega) (fun j hj => (ho3.lt j hj).1)
 have VZ : bZ 5 w w4 := UT.grown hg4 ho3
 clear ho3 hg4 hbw3 UT hI3
 go_wp2_with fail
 go_ret
 exact ⟨_, rfl, ho4, Q3, VZ⟩
abbrev frA (f : Lk.Fr) : Value := .agg #[.int .i64 (f.k : Int), .int .i64 (f.st : Int), .string (bs f.d)]
theorem set_self {α : Type} {l : List α} {i : Nat} {x : α} (h : l[i]? = some x) : l.set i x = l := by
 apply List.ext_getElem?
 intro j
 rw [List.getElem?_set]
 split
 . rename_i e
   subst e
   split
   . exact h.symm
   . rename_i h2; rw [List.getElem?_eq_none (by omega)] at h; cases h
 . rfl
theorem vP (rs : List Nat) (n : Nat) : fO (rs ++ [n]) = ptr n := by simp [fO, bu]
theorem LD {rs : List Nat} {r : Nat} (h : rs.getLast? = some r) : fO rs = ptr r := by simp [fO, bu, h]
theorem Links.last {w : World} {v : Value} {fs : List Lk.Fr} {rs : List Nat} (h : Links w v fs rs) {r : Nat} (hr : rs.getLast? = some r) : ∃ f nx, Is w r 167 (wtV f nx) := h.is r (List.mem_of_getLast? hr)
theorem zG (b o : Nat) (T : TypeId) (cs : List Value) (f : Lk.Fr) (w : World) (hI : Is w b T cs) (h0 : cs[o]? = some (.pointer none)) (h1 : cs[o + 1]? = some (.pointer none)) :
 Calls Tryz.prog 45 #[.pointer (some ⟨b, o, none⟩), frA f] w fun e w' => e = .returned (.tuple #[]) ∧ Is w' b T ((cs.set o (ptr (w.heap.size + 1))).set (o + 1) (ptr (w.heap.size + 1))) ∧ Is w' (w.heap.size + 1) 167 (wtV f (.pointer none)) ∧ Only (· = b) w w' := by
 have c0 : w.cell? ⟨b, o, none⟩ = some (.pointer none) := by rw [hI.cell]; exact h0
 have c1 : w.cell? ⟨b, o + 1, none⟩ = some (.pointer none) := by rw [hI.cell]; exact h1
 have f0 := hI.free o
 have f1 := hI.free (o + 1)
 have hbl := hI.lt
 have HI := hide hI
 clear hI h0 h1
 go_enter Tryz.func45, Tryz.ntmps45
 go_wp2_with fail
 go_end0
 have hA := ((((uh HI).set o (ptr (w.heap.size + 1))).set (o + 1) (ptr (w.heap.size + 1))).alloc (.cells #[.int .i64 (f.k : Int), .int .i64 (f.st : Int), .string (bs f.d)] 79)).alloc (.cells (wtV f (.pointer none)).toArray 167)
 have hN := Is.new (((w.setCell ⟨b, o, none⟩ (ptr (w.heap.size + 1))).setCell ⟨b, o + 1, none⟩ (ptr (w.heap.size + 1))).alloc (.cells #[.int .i64 (f.k : Int), .int .i64 (f.st : Int), .string (bs f.d)] 79)) 167 (wtV f (.pointer none))
 rw [World.size_alloc, World.size_setCell, World.size_setCell] at hN
 refine ⟨rfl, hA, hN, ?_⟩
 exact ((((Only.refl (· = b) w).set b o _ (fun _ => rfl)).set b (o + 1) _ (fun _ => rfl)).alloc _).alloc _
theorem BU (b o r : Nat) (T : TypeId) (cs : List Value) (f g : Lk.Fr) (nx : Value) (w : World) (hI : Is w b T cs) (hT : T ≠ 167) (q : Nat) (h0 : cs[o]? = some (ptr q)) (h1 : cs[o + 1]? = some (ptr r)) (hr : Is w r 167 (wtV g nx)) :
 Calls Tryz.prog 45 #[.pointer (some ⟨b, o, none⟩), frA f] w fun e w' => e = .returned (.tuple #[]) ∧ ∃ w1, Is w1 (w.heap.size + 1) 167 (wtV f (.pointer none)) ∧ Only (fun _ => False) w w1 ∧ w' = (w1.setCell ⟨r, 3, none⟩ (ptr (w.heap.size + 1))).setCell ⟨b, o + 1, none⟩ (ptr (w.heap.size + 1)) := by
 have c0 : w.cell? ⟨b, o, none⟩ = some (ptr q) := by rw [hI.cell]; exact h0
 have c1 : w.cell? ⟨b, o + 1, none⟩ = some (ptr r) := by rw [hI.cell]; exact h1
 unfold ptr at c0 c1
 have f1 := hI.free (o + 1)
 have hbl := hI.lt
 have r3 := hr.cell 3
 simp only [wtV, List.getElem?_cons_zero, List.getElem?_cons_succ] at r3
 have g3 := hr.free 3
 have hrl := hr.lt
 have hne : r ≠ b := fun e => by subst e; exact (hI.ne hr hT) rfl
 have HI := hide hI
 have HR := hide hr
 clear hI h0 h1 hr
 go_enter Tryz.func45, Tryz.ntmps45
 go_wp2_with fail
 go_end0
 refine ⟨rfl, (w.alloc (.cells #[.int .i64 (f.k : Int), .int .i64 (f.st : Int), .string (bs f.d)] 79)).alloc (.cells (wtV f (.pointer none)).toArray 167), ?_, ((Only.refl _ w).alloc _).alloc _, ?_⟩
 . have hN := Is.new (w.alloc (.cells #[.int .i64 (f.k : Int), .int .i64 (f.st : Int), .string (bs f.d)] 79)) 167 (wtV f (.pointer none))
   rw [World.size_alloc] at hN
   exact hN
 . rw [World.setCell_alloc_past _ r 3 _ (by simp; omega), World.setCell_alloc_past _ r 3 _ hrl, World.setCell_alloc_past _ b (o + 1) _ (by simp; omega), World.setCell_alloc_past _ b (o + 1) _ (by simp; omega)]
   rfl
theorem FQ (b o : Nat) (T : TypeId) (cs : List Value) (f : Lk.Fr) (fs : List Lk.Fr) (rs : List Nat) (w : World) (hI : Is w b T cs) (hT : T ≠ 167) (h0 : cs[o]? = some (dW rs)) (h1 : cs[o + 1]? = some (fO rs)) (hC : Chain w (dW rs) (fO rs) fs rs) :
 Calls Tryz.prog 45 #[.pointer (some ⟨b, o, none⟩), frA f] w fun e w' => e = .returned (.tuple #[]) ∧ ∃ n, w.heap.size <= n ∧ Is w' b T ((cs.set o (dW (rs ++ [n]))).set (o + 1) (fO (rs ++ [n]))) ∧ Chain w' (dW (rs ++ [n])) (fO (rs ++ [n])) (fs ++ [f]) (rs ++ [n]) ∧ Only (fun i => i = b ∨ i ∈ rs) w w' := by
 cases hl : rs.getLast? with
 | none =>
   obtain rfl : rs = [] := List.getLast?_eq_none_iff.1 hl
   have hfs := hC.links.len.1
   obtain rfl : fs = [] := List.eq_nil_of_length_eq_zero hfs
   refine (zG b o T cs f w hI h0 h1).mono ?_
   rintro e w' ⟨rfl, hI', hN, hO⟩
   exact ⟨rfl, _, by omega, hI', Chain.rG hN, hO.mono (fun i hi => .inl hi)⟩
 | some r =>
   obtain ⟨g, nx, hr⟩ := hC.links.last hl
   obtain ⟨q, qs, rfl⟩ : ∃ q qs, rs = q :: qs := by
    cases rs with
    | nil => simp at hl
    | cons q qs => exact ⟨q, qs, rfl⟩
   have hlt := hC.lt
   have hbn : b ∉ q :: qs := fun hm => by
    obtain ⟨_, _, hx⟩ := hC.links.is b hm
    exact hI.ne hx hT rfl
   refine (BU b o r T cs f g nx w hI hT q h0 (h1.trans (congrArg some (LD hl))) hr).mono ?_
   rintro e w' ⟨rfl, w1, hN, hO, rfl⟩
   have hmem : r ∈ q :: qs := List.mem_of_getLast? hl
   have hne : r ≠ b := fun e => hbn (e ▸ hmem)
   have hnn : w.heap.size + 1 ∉ q :: qs := fun hm => by have := hlt _ hm; omega
   have hC1 := (hC.only hO (fun _ _ h => h)).Lp hl hnn hN
   have hI1 := (hI.only hO (fun h => h)).other ⟨r, 3, none⟩ (ptr (w.heap.size + 1)) (fun e => hne e.symm)
   have hO1 : Only (fun i => i = b ∨ i ∈ q :: qs) w _ := (hO.mono (fun _ h => h.elim)).set r 3 (ptr (w.heap.size + 1)) (fun _ => .inr hmem)
   have hO2 := hO1.set b (o + 1) (ptr (w.heap.size + 1)) (fun _ => .inl rfl)
   have hT2 := (Turns.refl b (w1.setCell ⟨r, 3, none⟩ (ptr (w.heap.size + 1)))).set (o + 1) (ptr (w.heap.size + 1))
   refine ⟨rfl, w.heap.size + 1, by omega, ?_, ?_, hO2⟩
   . rw [vP]
     have e : cs.set o (dW (q :: qs ++ [w.heap.size + 1])) = cs := by
      have : cs[o]? = some (dW (q :: qs ++ [w.heap.size + 1])) := h0
      exact set_self this
     rw [e]
     exact hI1.set (o + 1) _
   . rw [vP]
     refine Chain.only hC1 (Only.dP hT2) (fun x hx e => ?_)
     subst e
     rcases List.mem_append.1 hx with hx | hx
     . exact hbn hx
     . simp at hx
       have := hI.lt
       omega
def rU (w : World) (g B : Nat) (xs : Lk.Bs) : Prop := ∃ v, Is w g 78 [v] ∧ w.ownsRow B 5 1 v xs.length (bytesV xs)
def kP (g : Nat) : Value := .func (.func 35) #[] #[.pointer (some ⟨g, 0, none⟩)]
theorem rU.lt {w : World} {g B : Nat} {xs : Lk.Bs} (h : rU w g B xs) : g < w.heap.size := let ⟨_, h, _⟩ := h; h.lt
theorem rU.only {S : Nat -> Prop} {w w' : World} {g B : Nat} {xs : Lk.Bs} (h : rU w g B xs) (k : Only S w w') (hS : ∀ i, S i -> i < B) (hg : B <= g) : rU w' g B xs := by
 obtain ⟨v, h1, h2⟩ := h
 exact ⟨v, h1.only k (fun hx => by have := hS g hx; omega), ag h2 k (fun i hi hx => by have := hS i hx; have := (h2.lt i hi).1; omega)⟩
theorem o7 (g B : Nat) (xs : Lk.Bs) (f : Lk.Fr) (w : World) (h : rU w g B xs) (hg : B <= g) (hl : xs.length <= 2 ^ 44) (hk : f.k <= 7) (hst : f.st <= 268435455) (hd : f.d.length <= 64) :
 Calls Tryz.prog 35 #[frA f, .pointer (some ⟨g, 0, none⟩)] w fun e w' => e = .returned (.tuple #[]) ∧ rU w' g B (xs ++ f.pack) ∧ Below B w w' := by
 obtain ⟨v, hI, ho⟩ := h
 have hgl := hI.lt
 have c0 := hI.cell 0
 simp only [List.getElem?_cons_zero] at c0
 obtain ⟨va, vn, oM, hv, hvn⟩ := bV ho
 clear hvn
 have hI0 := hI.alloc (.cells #[.int .i64 (f.k : Int), .int .i64 (f.st : Int), .string (bs f.d)] 79)
 have ho0 := ho.alloc (.cells #[.int .i64 (f.k : Int), .int .i64 (f.st : Int), .string (bs f.d)] 79)
 have hb0 := (Below.refl B w).alloc (by omega) (.cells #[.int .i64 (f.k : Int), .int .i64 (f.st : Int), .string (bs f.d)] 79)
 have HC := hide (lg B v xs f.k f.st (bs f.d) _ (by simp; omega) ho0 hl hk hst (by rw [ax]; exact hd))
 have HI0 := hide hI0
 have HB0 := hide hb0
 clear hI ho hI0 ho0 hb0
 subst hv
 go_enter Tryz.func35, Tryz.ntmps35
 go_wp2_with fail
 refine (uh HC).mono ?_
 rintro e w1 ⟨v1, rfl, ho1, hb1, hk1⟩
 have hI1 := hk1 _ _ _ (nbq rfl) (uh HI0)
 have d0 := hI1.cell 0
 have f0 := hI1.free 0
 have hl1 := hI1.lt
 simp only [List.getElem?_cons_zero] at d0
 have hbw := (uh HB0).trans hb1
 clear hb1 hk1
 obtain ⟨a1, n1, cap1, rfl, hn1⟩ := bV ho1
 have HO1 := hide ho1
 have HN1 := hide hn1
 clear ho1 hn1
 go_wp2_with fail
 go_end0
 have ho1 := uh HO1
 refine ⟨rfl, ⟨_, hI1.set 0 _, ?_⟩, hbw.setCell (by simpa using hg) _⟩
 have e : (bs f.d).data.toList = f.d := by simp [bs]
 rw [e] at ho1
 exact ho1.kept (grownBy_set w1 g 0 _) (.inr (fun e => own_ne ho1 hI1 (nbq rfl) e.symm))
theorem zH (b o g : Nat) (T : TypeId) (cs : List Value) (w : World) (hI : Is w b T cs) (h0 : cs[o]? = some (.pointer none)) :
 Calls Tryz.prog 37 #[.pointer (some ⟨b, o, none⟩), kP g] w fun e w' => e = .returned (.bool false) ∧ w' = w := by
 have c0 : w.cell? ⟨b, o, none⟩ = some (.pointer none) := by rw [hI.cell]; exact h0
 have hbl := hI.lt
 clear hI h0
 unfold kP
 go_enter Tryz.func37, Tryz.ntmps37
 go_wp2_with fail
 go_ret
 exact ⟨rfl, rfl⟩
theorem qi (b o g r B : Nat) (T : TypeId) (cs : List Value) (f : Lk.Fr) (fs : List Lk.Fr) (rs : List Nat) (xs : Lk.Bs) (w : World) (hI : Is w b T cs) (hT : T ≠ 167) (h0 : cs[o]? = some (dW (r :: rs))) (h1 : cs[o + 1]? = some (fO (r :: rs))) (hC : Chain w (dW (r :: rs)) (fO (r :: rs)) (f :: fs) (r :: rs))
 (hG : rU w g B xs) (hg : B <= g) (hb : b < B) (hrB : ∀ x ∈ r :: rs, x < B) (hl : xs.length <= 2 ^ 44) (hk : f.k <= 7) (hst : f.st <= 268435455) (hd : f.d.length <= 64) :
 Calls Tryz.prog 37 #[.pointer (some ⟨b, o, none⟩), kP g] w fun e w' => e = .returned (.bool true) ∧ Is w' b T ((cs.set o (dW rs)).set (o + 1) (fO rs)) ∧ Chain w' (dW rs) (fO rs) fs rs ∧ rU w' g B (xs ++ f.pack) ∧ Only (fun i => i = b ∨ B <= i) w w' := by
 rcases hC.empty with ⟨h, _⟩ | ⟨f', fs', r', rs', hf, hr, _, hW, hC'⟩
 . cases h
 cases hf
 cases hr
 have hnd : r ∉ rs := (List.nodup_cons.1 hC.nodup).1
 have hrb : r ≠ b := fun e => by subst e; exact hI.ne hW hT rfl
 have c0 : w.cell? ⟨b, o, none⟩ = some (.pointer (some ⟨r, 0, none⟩)) := by rw [hI.cell]; exact h0
 have r0 := hW.cell 0
 have r1 := hW.cell 1
 have r2 := hW.cell 2
 simp only [wtV, List.getElem?_cons_zero, List.getElem?_cons_succ] at r0 r1 r2
 have hbl := hI.lt
 have hrl := hW.lt
 have V6 := hrB r (by simp)
 have HC := hide (o7 g B xs f w hG hg hl hk hst hd)
 have HI := hide hI
 have HW := hide hW
 have HCC := hide hC'
 have HRB := hide hrB
 have HH0 := hide h0
 have HH1 := hide h1
 clear hI hW hC' hC hrB h0 h1 hG
 generalize hF : dW rs = F at *
 generalize hL : fO rs = L at *
 have HF := hide hF
 have HL := hide hL
 clear hF hL
 unfold kP
 go_enter Tryz.func37, Tryz.ntmps37
 go_wp2_with fail
 refine (uh HC).mono ?_
 rintro e w1 ⟨rfl, hG1, hb1⟩
 have hI1 := (uh HI).below hb1 hb
 have hW1 := (uh HW).below hb1 V6
 have hC1 := Chain.only (uh HCC) (Only.gW hb1) (fun x hx h => by have := uh HRB x (by simp [hx]); omega)
 have c0 : w1.cell? ⟨b, o, none⟩ = some (.pointer (some ⟨r, 0, none⟩)) := by rw [hI1.cell]; exact uh HH0
 have c1 : w1.cell? ⟨b, o + 1, none⟩ = some (fO (r :: rs)) := by rw [hI1.cell]; exact uh HH1
 have f0 := hI1.free o
 have f1 := hI1.free (o + 1)
 have r3 := hW1.cell 3
 simp only [wtV, List.getElem?_cons_zero, List.getElem?_cons_succ] at r3
 have hbl := hI1.lt
 have hrl := hW1.lt
 have HI1 := hide hI1
 have HB1 := hide hb1
 clear hI1 hW1 hb1 r0 r1 r2
 have hgb : g ≠ b := by omega
 cases rs with
 | nil =>
   have e1 : F = .pointer none := (uh HF).symm
   have e2 : L = .pointer none := (uh HL).symm
   subst e1 e2
   have e3 : fO [r] = .pointer (some ⟨r, 0, none⟩) := rfl
   rw [e3] at c1
   clear e3
   go_wp2_with fail
   go_ret
   have hT2 := ((Turns.refl b w1).set o (.pointer none)).set (o + 1) (.pointer none)
   have hO2 : Only (fun i => i = b) w1 _ := Only.dP hT2
   refine ⟨rfl, ((uh HI1).set o _).set (o + 1) _, hC1.only hO2 (fun x hx => by simp at hx), hG1.only hO2 (fun i hi => by omega) hg, ?_⟩
   exact ((Only.gW (uh HB1)).mono (fun i hi => .inr hi)).trans hO2 (fun i hi _ => .inl hi)
 | cons q qs =>
   have e1 : F = .pointer (some ⟨q, 0, none⟩) := (uh HF).symm
   subst e1
   have e3 : fO (r :: q :: qs) = L := by rw [<- uh HL]; exact FM (by simp)
   rw [e3] at c1
   go_wp2_with fail
   go_ret
   have hT2 := (Turns.refl b w1).set o (.pointer (some ⟨q, 0, none⟩))
   have hO2 : Only (fun i => i = b) w1 _ := Only.dP hT2
   refine ⟨rfl, ?_, hC1.only hO2 (fun x hx e => ?_), hG1.only hO2 (fun i hi => by omega) hg, ?_⟩
   . have hx := (uh HI1).set o (.pointer (some ⟨q, 0, none⟩))
     have e4 : (cs.set o (.pointer (some ⟨q, 0, none⟩))).set (o + 1) L = cs.set o (.pointer (some ⟨q, 0, none⟩)) := by
      apply set_self
      rw [List.getElem?_set_ne (by omega), uh HH1, e3]
     rw [e4]
     exact hx
   . subst e
     obtain ⟨_, _, hy⟩ := (uh HCC).links.is x hx
     exact (uh HI).ne hy hT rfl
   . exact ((Only.gW (uh HB1)).mono (fun i hi => .inr hi)).trans hO2 (fun i hi _ => .inl hi)
theorem O4 (l : Lk.Bs) (n : Nat) : (bs l).extract 0 n = bs (l.take n) := by
 have e := dI (bs l) 0 n
 have e2 : (bs l).data.toList = l := by simp [bs]
 rw [e2, List.drop_zero, Nat.sub_zero] at e
 unfold bs at e ⊢
 rw [<- e]
theorem O5 (l : Lk.Bs) (n : Nat) : (bs l).extract n l.length = bs (l.drop n) := by
 have e := dI (bs l) n l.length
 have e2 : (bs l).data.toList = l := by simp [bs]
 rw [e2, List.take_of_length_le (by rw [List.length_drop]; omega)] at e
 unfold bs at e ⊢
 rw [<- e]
theorem rV {l : Lk.Bs} (h : l ≠ []) : (bs l).toList.isEmpty = false := by
 rw [ByteArray.toList_eq]
 cases l with
 | nil => exact absurd rfl h
 | cons a t => simp [bs]
theorem mF.drop {w : World} {os : List Lk.Ow} {ps : List Nat} (h : mF w os ps) (R : Option Nat) : mF w (iR R os) (iR R ps) := by
 cases R with
 | none => exact h
 | some i =>
   have hl := h.len
   refine ⟨?_, fun j o p ho hp => ?_⟩
   . simp only [iR, List.length_eraseIdx]
     rw [hl]
   . simp only [iR] at ho hp
     rw [List.getElem?_eraseIdx] at ho hp
     split at ho
     . rename_i hj; rw [if_pos hj] at hp; exact h.is j o p ho hp
     . rename_i hj; rw [if_neg hj] at hp; exact h.is (j + 1) o p ho hp
theorem mF.set {w w' : World} {os : List Lk.Ow} {ps : List Nat} (h : mF w os ps) {i p : Nat} {o' : Lk.Ow} (hp : ps[i]? = some p) (hn : ps.Nodup) (hI : Is w' p 173 (owV o')) (hO : ∀ q ∈ ps, q ≠ p -> ∀ cs, Is w q 173 cs -> Is w' q 173 cs) : mF w' (os.set i o') ps := by
 refine ⟨by rw [List.length_set]; exact h.len, fun j o q ho hq => ?_⟩
 rcases Lk.oQ ho with ⟨rfl, rfl, _⟩ | ⟨hj, ho⟩
 . rw [hp] at hq; cases hq; exact hI
 . refine hO q (List.mem_of_getElem? hq) (fun e => ?_) _ (h.is j o q ho hq)
   subst e
   have hj1 := (List.getElem?_eq_some_iff.1 hq).1
   exact hj ((List.getElem?_inj hj1 hn).1 (hq.trans hp.symm))
theorem Apart.set {os : List Lk.Ow} (h : Apart os) {i : Nat} {o o' : Lk.Ow} (ho : os[i]? = some o) (hid : o'.id = o.id) : Apart (os.set i o') := by
 intro a b x y hx hy e
 rcases Lk.oQ hx with ⟨ha, hx', _⟩ | ⟨ha, hx'⟩ <;> rcases Lk.oQ hy with ⟨hb, hy', _⟩ | ⟨hb, hy'⟩
 . omega
 . rw [hx'] at e
   rw [ha]
   exact h _ _ _ _ ho hy' (by omega)
 . rw [hy'] at e
   rw [hb]
   exact h _ _ _ _ hx' ho (by omega)
 . exact h _ _ _ _ hx' hy' e
theorem Apart.find {os : List Lk.Ow} (h : Apart os) {i : Nat} {o : Lk.Ow} (ho : os[i]? = some o) : os.findIdx? (qh (o.id : Int)) = some i := by
 rw [List.findIdx?_eq_some_iff_getElem]
 obtain ⟨hi, e⟩ := List.getElem?_eq_some_iff.1 ho
 refine ⟨hi, by rw [e]; simp [qh], fun j hj => ?_⟩
 intro hx
 simp [qh] at hx
 have := h j i os[j] o (List.getElem?_eq_getElem (by omega)) ho (by omega)
 omega
theorem qj (b g : Nat) (w : World) (hN : Calls Tryz.prog 73 #[.pointer (some ⟨b, 3, none⟩)] w fun e w' => e = .returned (.tuple #[.pointer none, .bool false]) ∧ ∃ n, w' = w.drewN n) :
 Calls Tryz.prog 38 #[.pointer (some ⟨b, 3, none⟩), kP g] w fun e w' => e = .returned (.bool false) ∧ ∃ n, w' = w.drewN n := by
 have HN := hide hN
 clear hN
 unfold kP
 go_enter Tryz.func38, Tryz.ntmps38
 go_wp2_with fail
 refine (uh HN).mono ?_
 rintro e w1 ⟨rfl, n, rfl⟩
 go_wp2_with fail
 go_ret
 exact ⟨rfl, n, rfl⟩
theorem FT {w : World} {b p n1 nq : Nat} {T : TypeId} {cs : List Value} {o : Lk.Ow} {x y z u : Value} (hI : Is w b T cs) (hIp : Is w p 173 (owV o)) (hpb : p ≠ b) :
 Is ((((((w.drewN n1).setCell ⟨b, 8, none⟩ x).drewN nq).setCell ⟨p, 2, none⟩ y).setCell ⟨p, 1, none⟩ z).setCell ⟨b, 9, none⟩ u) b T ((cs.set 8 x).set 9 u)
 ∧ Is ((((((w.drewN n1).setCell ⟨b, 8, none⟩ x).drewN nq).setCell ⟨p, 2, none⟩ y).setCell ⟨p, 1, none⟩ z).setCell ⟨b, 9, none⟩ u) p 173 [.int .i64 (o.id : Int), z, y]
 ∧ Only (fun i => i = b ∨ i = p) w ((((((w.drewN n1).setCell ⟨b, 8, none⟩ x).drewN nq).setCell ⟨p, 2, none⟩ y).setCell ⟨p, 1, none⟩ z).setCell ⟨b, 9, none⟩ u) := by
 refine ⟨?_, ?_, ?_⟩
 . have h1 := ((hI.drewN n1).set 8 x).drewN nq
   exact (((h1.other ⟨p, 2, none⟩ y (fun e => hpb e.symm)).other ⟨p, 1, none⟩ z (fun e => hpb e.symm)).set 9 u)
 . have h1 := ((hIp.drewN n1).other ⟨b, 8, none⟩ x hpb).drewN nq
   exact ((h1.set 2 y).set 1 z).other ⟨b, 9, none⟩ u hpb
 . exact ((((((Only.refl _ w).drewN n1).set b 8 x (fun _ => .inl rfl)).drewN nq).set p 2 y (fun _ => .inr rfl)).set p 1 z (fun _ => .inr rfl)).set b 9 u (fun _ => .inl rfl)
theorem vV {w W : World} {b Bo B p i : Nat} {T : TypeId} {cs : List Value} {v x u : Value} {o o' : Lk.Ow} {os : List Lk.Ow} {ps : List Nat} (hI : Is w b T cs) (hT : T ≠ 169) (hT2 : T ≠ 173) (hO : mF w os ps) (hnd : ps.Nodup) (hpi : ps[i]? = some p)
 (ho : w.ownsRow Bo 169 1 v ps.length (ps.map ptr)) (h10 : cs[10]? = some v) (hb : b < B) (hpB : ∀ x ∈ ps, x < B) (hW : Is W b T ((cs.set 8 x).set 9 u) ∧ Is W p 173 (owV o') ∧ Only (fun i => i = b ∨ i = p) w W) (hoi : os[i]? = some o) :
 mF W (os.set i o') ps ∧ W.ownsRow Bo 169 1 v ps.length (ps.map ptr) ∧ ((cs.set 8 x).set 9 u)[10]? = some v ∧ (∀ j, (j = b ∨ j = p) -> j < B) := by
 obtain ⟨h1, h2, h3⟩ := hW
 have hp : p ∈ ps := List.mem_of_getElem? hpi
 refine ⟨hO.set hpi hnd h2 (fun q hq hne c hc => hc.only h3 (fun hx => ?_)), ag ho h3 (fun j hj hx => ?_), ?_, fun j hj => ?_⟩
 . rcases hx with hx | hx
   . subst hx; exact hI.ne hc hT2 rfl
   . exact hne hx
 . rcases hx with hx | hx
   . subst hx; exact own_ne ho hI hT hj.symm
   . subst hx
     exact own_ne ho (hO.is i o _ hoi hpi) (nbq rfl) hj.symm
 . rw [List.getElem?_set_ne (by omega), List.getElem?_set_ne (by omega)]; exact h10
 . rcases hj with rfl | rfl
   . exact hb
   . exact hpB _ hp
def Eo (all : Nat) (o : Lk.Ow) : Lk.Ow := ⟨o.id, o.left.drop (gY all o), o.cr - gY all o, o.done⟩
def rW (all : Nat) (o : Lk.Ow) (i : Nat) : Option Nat := if gY all o = o.left.length then some i else none
def LG (all : Nat) (o : Lk.Ow) : Lk.Fr := ⟨if gY all o = o.left.length then 2 else 1, o.id, o.left.take (gY all o)⟩
theorem zI (b B Bo g i p all turn : Nat) (T : TypeId) (cs : List Value) (v : Value) (o : Lk.Ow) (os : List Lk.Ow) (ps : List Nat) (xs : Lk.Bs) (w : World) (hI : Is w b T cs) (hT : T ≠ 169) (hT2 : T ≠ 173) (h10 : cs[10]? = some v) (h9 : cs[9]? = some (.int .i64 (all : Int))) (h8 : cs[8]? = some (.int .i64 (turn : Int)))
 (hO : mF w os ps) (hnd : ps.Nodup) (ha : Apart os) (ho : w.ownsRow Bo 169 1 v ps.length (ps.map ptr)) (h4 : ps.length <= 1000) (hoi : os[i]? = some o) (hpi : ps[i]? = some p)
 (hN : Calls Tryz.prog 73 #[.pointer (some ⟨b, 3, none⟩)] w fun e w' => e = .returned (.tuple #[.pointer (some ⟨p, 0, none⟩), .bool true]) ∧ ∃ n, w' = w.drewN n)
 (hG : rU w g B xs) (hg : B <= g) (hb : b < B) (hpB : ∀ x ∈ ps, x < B) (hvB : ∀ x, v.ownBlock = some x -> x < B) (hl : xs.length <= 2 ^ 44) (hid : o.id <= 268435455) (hal : all <= 1000000) (hcr : o.cr <= 1000000) (hll : o.left.length <= 1000) :
 Calls Tryz.prog 38 #[.pointer (some ⟨b, 3, none⟩), kP g] w fun e w' => e = .returned (.bool true) ∧
  ∃ v', Is w' b T (((cs.set 8 (.int .i64 (o.id : Int))).set 9 (.int .i64 ((all - gY all o : Nat) : Int))).set 10 v') ∧ w'.ownsRow Bo 169 1 v' (iR (rW all o i) ps).length ((iR (rW all o i) ps).map ptr) ∧ v'.ownBlock = v.ownBlock
   ∧ mF w' (iR (rW all o i) (os.set i (Eo all o))) (iR (rW all o i) ps) ∧ rU w' g B (xs ++ (LG all o).pack) ∧ Only (fun x => x = b ∨ some x = v.ownBlock ∨ x ∈ ps ∨ B <= x) w w' := by
 have hIp := hO.is i o p hoi hpi
 have hpb : p ≠ b := fun e => by subst e; exact hI.ne hIp hT2 rfl
 have hpl := hIp.lt
 have hbl := hI.lt
 have p0 := hIp.cell 0
 have p1 := hIp.cell 1
 have p2 := hIp.cell 2
 have q1 := hIp.free 1
 have q2 := hIp.free 2
 simp only [owV, List.getElem?_cons_zero, List.getElem?_cons_succ] at p0 p1 p2
 have c9 : w.cell? ⟨b, 9, none⟩ = some (.int .i64 (all : Int)) := by rw [hI.cell]; exact h9
 have c8 : w.cell? ⟨b, 8, none⟩ = some (.int .i64 (turn : Int)) := by rw [hI.cell]; exact h8
 have f8 := hI.free 8
 have f9 := hI.free 9
 have FU := hIp.other ⟨b, 8, none⟩ (.int .i64 (o.id : Int)) hpb
 have hI1 := hI.set 8 (.int .i64 (o.id : Int))
 have c9' : (w.setCell ⟨b, 8, none⟩ (.int .i64 (o.id : Int))).cell? ⟨b, 9, none⟩ = some (.int .i64 (all : Int)) := by rw [hI1.cell, List.getElem?_set_ne (by omega)]; exact h9
 have hbs := ax o.left
 have XH : gY all o <= o.left.length := by unfold gY; omega
 have XI : gY all o <= o.cr := by unfold gY; omega
 have XJ : gY all o <= all := by unfold gY; omega
 have XK : gY all o <= 16 := by unfold gY; omega
 have HM := hide (fun n m => Em b p all o (((w.drewN n).setCell ⟨b, 8, none⟩ (.int .i64 (o.id : Int))).drewN m) (by simpa using hbl) c9' FU)
 have HN := hide hN
 have HI := hide hI
 have HO := hide hO
 have HOW := hide ho
 have HG := hide hG
 have HH := hide (⟨h10, h9, h8⟩ : cs[10]? = some v ∧ cs[9]? = some (.int .i64 (all : Int)) ∧ cs[8]? = some (.int .i64 (turn : Int)))
 have HIP := hide hIp
 have HAA := hide ha
 have HPB := hide hpB
 have HND := hide hnd
 have HOI := hide hoi
 have HPI := hide hpi
 have HVB := hide hvB
 clear hN hI hO ho hG h10 h9 h8 hIp ha hpB hnd hoi hpi hvB FU hI1 c9'
 have ht1 := O4 o.left (gY all o)
 have ht2 := O5 o.left (gY all o)
 have hts : (bs (o.left.take (gY all o))).size = gY all o := by rw [ax, List.length_take]; omega
 unfold Eo rW LG
 generalize gY all o = n at *
 have hW := fun n1 nq => FT (n1 := n1) (nq := nq) (x := .int .i64 (o.id : Int)) (y := .string (bs (o.left.drop n))) (z := .int .i64 ((o.cr : Int) - (n : Int))) (u := .int .i64 ((all : Int) - (n : Int))) (uh HI) (uh HIP) hpb
 have UU : ((o.cr : Int) - (n : Int)) = ((o.cr - n : Nat) : Int) := by omega
 have UW : ((all : Int) - (n : Int)) = ((all - n : Nat) : Int) := by omega
 have HW := hide hW
 have HCR := hide UU
 have HAL := hide UW
 clear hW UU UW
 by_cases hov : n = o.left.length
 . have hdr : bs (o.left.drop n) = ⟨#[]⟩ := by rw [hov, List.drop_length]; rfl
   simp only [if_pos hov]
   have HOV := hide hov
   clear hov
   unfold kP
   go_enter Tryz.func38, Tryz.ntmps38
   go_wp2_with fail
   refine (uh HN).mono ?_
   rintro e w1 ⟨rfl, n1, rfl⟩
   go_wp2_with fail
   go_quiet ((go_at_call 74; exact Calls.quiet_of (uh HM _ _)))
   go_wp2_with fail
   have hW1 := uh HW n1 nq
   rw [hdr, uh HCR, uh HAL] at hW1
   have hst := vV (o := o) (o' := ⟨o.id, o.left.drop n, o.cr - n, o.done⟩) (uh HI) hT hT2 (uh HO) (uh HND) (uh HPI) (uh HOW) (uh HH).1 hb (uh HPB) ⟨hW1.1, by unfold owV; rw [hdr]; exact hW1.2.1, hW1.2.2⟩ (uh HOI)
   obtain ⟨hO1, ho1, O6, hS⟩ := hst
   obtain ⟨hI1, FU, LH⟩ := hW1
   have hG1 := (uh HG).only LH hS hg
   have hap := (uh HAA).set (o' := ⟨o.id, o.left.drop n, o.cr - n, o.done⟩) (uh HOI) rfl
   have hfi := hap.find (i := i) (o := ⟨o.id, o.left.drop n, o.cr - n, o.done⟩) (by rw [List.getElem?_set_self (List.getElem?_eq_some_iff.1 (uh HOI)).1])
   rw [uh HCR, uh HAL]
   refine (Ej b Bo T _ v (os.set i ⟨o.id, o.left.drop n, o.cr - n, o.done⟩) ps (o.id : Int) (some i) _ hI1 hT hT2 O6 hO1 ho1 h4 hap hfi).mono ?_
   rintro e w2 ⟨rfl, v2, hI2, ho2, hv2, hO2, TL⟩
   have TM := hO2.is i ⟨o.id, o.left.drop n, o.cr - n, o.done⟩ p (by rw [List.getElem?_set_self (List.getElem?_eq_some_iff.1 (uh HOI)).1]) (uh HPI)
   have p0 := TM.cell 0
   simp only [owV, List.getElem?_cons_zero] at p0
   have hpl2 := TM.lt
   have SY : Only (fun x => x = b ∨ some x = v.ownBlock ∨ x ∈ ps ∨ B <= x) w w2 := (LH.mono (fun x hx => by
    rcases hx with hx | hx
    . exact .inl hx
    . exact .inr (.inr (.inl (hx ▸ List.mem_of_getElem? (uh HPI)))))).trans TL (fun x hx _ => by
    rcases hx with hx | hx
    . exact .inl hx
    . exact .inr (.inl hx))
   have hG2 := hG1.only TL (fun x hx => by
    rcases hx with hx | hx
    . omega
    . exact uh HVB x hx.symm) hg
   have HC := hide (o7 g B xs ⟨2, o.id, o.left.take n⟩ w2 hG2 hg hl (by simp) hid (by simp; omega))
   have HI2 := hide hI2
   have HO2 := hide (⟨ho2, hv2, hO2, SY⟩ : _ ∧ _ ∧ _ ∧ _)
   clear hI1 FU LH hO1 ho1 O6 hS hG1 hap hfi hI2 ho2 hO2 TL TM SY hG2
   go_wp2_with fail
   refine (uh HC).mono ?_
   rintro e w3 ⟨rfl, hG3, hb3⟩
   go_wp2_with fail
   go_ret
   obtain ⟨ho2, hv2, hO2, SY⟩ := uh HO2
   have hO3 := (hO2.drop (some i)).only (Only.gW hb3) (fun q hq hx => by
    have := uh HPB q (List.mem_of_mem_eraseIdx hq)
    omega)
   refine ⟨rfl, v2, (uh HI2).below hb3 hb, ag ho2 (Only.gW hb3) (fun q hq hx => ?_), hv2, hO3, hG3, SY.trans (Only.gW hb3) (fun q hq _ => .inr (.inr (.inr hq)))⟩
   rw [hv2] at hq
   have := uh HVB q hq
   omega
 . have hdr : (bs (o.left.drop n)).toList.isEmpty = false := rV (fun e => hov (by have := congrArg List.length e; rw [List.length_drop] at this; simp at this; omega))
   simp only [if_neg hov]
   unfold kP
   go_enter Tryz.func38, Tryz.ntmps38
   go_wp2_with fail
   refine (uh HN).mono ?_
   rintro e w1 ⟨rfl, n1, rfl⟩
   go_wp2_with fail
   go_quiet ((go_at_call 74; exact Calls.quiet_of (uh HM _ _)))
   go_wp2_with fail
   have hW1 := uh HW n1 nq
   rw [uh HCR, uh HAL] at hW1
   have hst := vV (o := o) (o' := ⟨o.id, o.left.drop n, o.cr - n, o.done⟩) (uh HI) hT hT2 (uh HO) (uh HND) (uh HPI) (uh HOW) (uh HH).1 hb (uh HPB) hW1 (uh HOI)
   obtain ⟨hO1, ho1, O6, hS⟩ := hst
   obtain ⟨hI1, FU, LH⟩ := hW1
   have hG1 := (uh HG).only LH hS hg
   rw [uh HCR, uh HAL]
   refine (o7 g B xs ⟨1, o.id, o.left.take n⟩ _ hG1 hg hl (by simp) hid (by simp; omega)).mono ?_
   rintro e w3 ⟨rfl, hG3, hb3⟩
   have HF := hide (⟨hI1, ho1, hO1, LH, O6, hG3⟩ : _ ∧ _ ∧ _ ∧ _ ∧ _ ∧ _)
   clear hI1 FU ho1 hO1 LH O6 hG3 hG1 hS
   go_wp2_with fail
   go_ret
   obtain ⟨hI1, ho1, hO1, LH, O6, hG3⟩ := uh HF
   refine ⟨rfl, v, ?_, ag ho1 (Only.gW hb3) (fun q hq hx => ?_), rfl, hO1.only (Only.gW hb3) (fun q hq hx => ?_), hG3, ?_⟩
   . rw [set_self O6]
     exact hI1.below hb3 hb
   . have := uh HVB q hq
     omega
   . have := uh HPB q hq
     omega
   . refine (LH.mono (fun x hx => ?_)).trans (Only.gW hb3) (fun q hq _ => .inr (.inr (.inr hq)))
     rcases hx with hx | hx
     . exact .inl hx
     . exact .inr (.inr (.inl (hx ▸ List.mem_of_getElem? (uh HPI))))
end Go.Proofs.YtbkpdapagfjmmaaGreatDoor
