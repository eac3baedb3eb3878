import Derived.Test.YtbkpdapagfjmmaaGreatDoorMPGW3
import Derived.Test.YtbkpdapagfjmmaaGreatDoorMSpec7N2
set_option linter.unusedVariables false
set_option maxRecDepth 100000
set_option maxHeartbeats 16000000
namespace Go.Proofs.YtbkpdapagfjmmaaGreatDoor
open Go.RowKit
theorem isNumber_any (n : Int) (w : World) : Calls Tryz.prog 83 #[.int .i64 n] w fun e w' => e = .returned (.bool (decide (0 ≤ n) && decide (n ≤ 268435455))) ∧ w' = w := by
  by_cases h : 0 ≤ n
  · have hd : decide (0 ≤ n) = true := by simpa using h
    go_enter Tryz.func83, Tryz.ntmps83
    go_wp2_with fail
    go_ret
    exact ⟨ret_bool (by first | rfl | (rw [hd]; simp) | simp [hd]), rfl⟩
  · have hd : decide (0 ≤ n) = false := by simpa using h
    go_enter Tryz.func83, Tryz.ntmps83
    go_wp2_with fail
    go_ret
    exact ⟨ret_bool (by first | rfl | (rw [hd]; simp) | simp [hd]), rfl⟩
theorem frame_cells (k st : Nat) (s : ByteArray) (xs : List UInt8) : bytesV ((xs ++ [UInt8.ofNat k]) ++ (Lk.wire st ++ Lk.wire s.size)) ++ Lib.strCells s = bytesV (xs ++ Lk.packed k st s.data.toList) := by
  rw [strCells_bytes, bytesV, bytesV, bytesV, ← List.map_append, Lk.packed, Int.toNat_natCast, Int.toNat_natCast, ← size_list]
  simp
theorem frame_len (k st : Nat) (s : ByteArray) (xs : List UInt8) : xs.length + 1 + ((Lk.wire st).length + (Lk.wire s.size).length) + s.size = (xs ++ Lk.packed k st s.data.toList).length := by
  rw [Lk.packed, Int.toNat_natCast, Int.toNat_natCast, ← size_list]
  simp only [List.length_append, List.length_cons, ← size_list]
  omega
theorem own_len' {w : World} {B : Nat} {e : TypeId} {size n m : Nat} {v : Value} {xs : List Value} (hn : m = n) (h : w.ownsRow B e size v n xs) : w.ownsRow B e size v m xs := by rw [hn]; exact h
theorem byte_kind (k : Nat) (hk : k ≤ 7) : (IntKind.u8.wrap (k : Int)) = ((UInt8.ofNat k).toNat : Int) := by
  rw [← byte_small k (by omega)]
  obtain rfl | rfl | rfl | rfl | rfl | rfl | rfl | rfl : k = 0 ∨ k = 1 ∨ k = 2 ∨ k = 3 ∨ k = 4 ∨ k = 5 ∨ k = 6 ∨ k = 7 := by omega
  all_goals decide
theorem appendFrame_any (B : Nat) (v : Value) (xs : List UInt8) (k st : Nat) (s : ByteArray) (w : World) (hB : B ≤ w.heap.size) (ho : w.ownsRow B 5 1 v xs.length (bytesV xs)) (hl : xs.length ≤ 2 ^ 44) (hk : k ≤ 7) (hst : st ≤ 268435455) (hs : s.size ≤ 64) :
    Calls Tryz.prog 36 #[v, .agg #[.int .i64 (k : Int), .int .i64 (st : Int), .string s]] w fun e w' =>
      ∃ v', e = .returned v' ∧ w'.ownsRow B 5 1 v' (xs ++ Lk.packed k st s.data.toList).length (bytesV (xs ++ Lk.packed k st s.data.toList)) ∧ Below B w w' ∧ KeepsT 5 w w' := by
  obtain ⟨i, hi, hz0, hz1, hz2⟩ := info_parts info_u8
  have hI0 := Is.new w 79 [.int .i64 (k : Int), .int .i64 (st : Int), .string s]
  have hb0 := (Below.refl B w).alloc hB (.cells #[.int .i64 (k : Int), .int .i64 (st : Int), .string s] 79)
  have hk0 := (KeepsT.refl 5 w).alloc (.cells #[.int .i64 (k : Int), .int .i64 (st : Int), .string s] 79)
  have ho0 := ho.alloc (.cells #[.int .i64 (k : Int), .int .i64 (st : Int), .string s] 79)
  have hw4 := Lk.wire_len_le4 st hst
  have hw5 := Lk.wire_len_le4 s.size (by omega)
  have HB0 := hide hb0
  have HK0 := hide hk0
  have HI0 := hide hI0
  clear hb0 hk0 hI0
  have hkk : (k : Int) ≤ 7 := by omega
  go_enter Tryz.func36, Tryz.ntmps36
  go_wp2_with (at_builtin; refine wpList_append_own _ rfl _ _ 78 rfl B 5 i _ 1 1 Tryz.underlying78 hi hz0 hz1 hz2 rfl (by decide) _ xs.length (bytesV xs) rfl (ho0.alloc _) ⟨w.heap.size + 1, 0, none⟩ 1 1 [.int .u8 (k : Int)] rfl rfl ?hnews ?h1 ?h63 ?hby ?hba ?_)
  case hnews => exact one_new_at _ _ _ _ (by simp)
  case h1 => simp [Value.oneCell']
  case h63 => unfold maxLen; omega
  case hby => omega
  case hba => first | omega | (simp; omega)
  intro v1 w1 ho1 hg1 _
  rw [bytesV_snoc xs (UInt8.ofNat k) _ (by first | exact byte_kind k hk | exact byte_small k (by omega))] at ho1
  have hoa := ho0.alloc (.cells #[.int .u8 (k : Int)] 5)
  have hIa := (uh HI0).alloc (.cells #[.int .u8 (k : Int)] 5)
  have hI1 := hIa.grown hg1 (own_ne hoa hIa (nbq rfl))
  have hb1 : Below B w w1 := (((uh HB0).alloc (by simp; omega) _)).grown hg1 (by simp; omega) (fun j hj => (ho.lt j hj).1)
  have hk1 : KeepsT 5 w w1 := ((uh HK0).alloc (.cells #[.int .u8 (k : Int)] 5)).grown hg1 hoa
  have hs1 : w.heap.size < w1.heap.size := hI1.lt
  have c1 := hI1.cell 1
  have c2 := hI1.cell 2
  simp only [List.getElem?_cons_zero, List.getElem?_cons_succ] at c1 c2
  have hl1 : xs.length + 1 = (xs ++ [UInt8.ofNat k]).length := by simp
  rw [hl1] at ho1
  clear hg1 ho0 hoa hIa HB0 HK0 HI0 ho
  generalize hys : xs ++ [UInt8.ofNat k] = ys at ho1
  have hyl : ys.length = xs.length + 1 := by rw [← hys]; simp
  have HYS := hide hys
  clear hys hl1
  go_wp2_with fail
  refine (appendNumber_T B v1 ys st hst _ (by omega) ho1 (by omega)).mono ?_
  rintro e w2 ⟨v2, rfl, ho2, hb2, hk2⟩
  have hI2 := hk2 _ _ _ (nbq rfl) hI1
  have hbw2 := hb1.trans hb2
  have hkw2 := hk1.trans hk2
  have hs2 : w.heap.size < w2.heap.size := hI2.lt
  have c2 := hI2.cell 2
  simp only [List.getElem?_cons_zero, List.getElem?_cons_succ] at c2
  clear hI1 hb1 hk1 hb2 hk2 ho1 c1
  go_wp2_with fail
  refine (appendNumber_T B v2 _ s.size (by omega) _ (by omega) ho2 (by simp; omega)).mono ?_
  rintro e w3 ⟨v3, rfl, ho3, hb3, hk3⟩
  have hI3 := hk3 _ _ _ (nbq rfl) hI2
  have hbw3 := hbw2.trans hb3
  have hkw3 := hkw2.trans hk3
  have hs3 : w.heap.size < w3.heap.size := hI3.lt
  have c2 := hI3.cell 2
  simp only [List.getElem?_cons_zero, List.getElem?_cons_succ] at c2
  clear hI2 hbw2 hkw2 hb3 hk3 ho2
  go_wp2_with (at_builtin; refine Lib.wpList_append_own_string _ rfl _ _ 78 9 rfl B 5 i Tryz.underlying78 Tryz.underlying9 hi hz0 hz1 hz2 _ _ _ rfl ho3 s rfl ?h63 ?hby ?hba ?_)
  case h63 => unfold maxLen; simp; omega
  case hby => simp; omega
  case hba => omega
  intro v4 w4 ho4 hg4 _
  rw [← uh HYS, frame_cells] at ho4
  have ho4 := own_len' (m := (xs ++ Lk.packed k st s.data.toList).length) (by first | exact (frame_len k st s xs).symm | (simp only [List.length_append, List.length_cons, List.length_nil]; have := frame_len k st s xs; simp only [List.length_append] at this; omega)) ho4
  have hbw4 : Below B w w4 := hbw3.grown hg4 (by omega) (fun j hj => (ho3.lt j hj).1)
  have hkw4 : KeepsT 5 w w4 := hkw3.grown hg4 ho3
  clear ho3 hg4 hbw3 hkw3 hI3
  go_wp2_with fail
  go_ret
  exact ⟨_, rfl, ho4, hbw4, hkw4⟩
end Go.Proofs.YtbkpdapagfjmmaaGreatDoor

namespace Go.Proofs.YtbkpdapagfjmmaaGreatDoor
open Go.RowKit
abbrev frA (f : Lk.Fr) : Value := .agg #[.int .i64 (f.k : Int), .int .i64 (f.st : Int), .string (bs f.d)]
theorem set_self {α : Type} {l : List α} {i : Nat} {x : α} (h : l[i]? = some x) : l.set i x = l := by
  apply List.ext_getElem?
  intro j
  rw [List.getElem?_set]
  split
  · rename_i e
    subst e
    split
    · exact h.symm
    · rename_i h2; rw [List.getElem?_eq_none (by omega)] at h; cases h
  · rfl
theorem lastV_snoc (rs : List Nat) (n : Nat) : lastV (rs ++ [n]) = ptr n := by simp [lastV, optPtr]
theorem lastV_of {rs : List Nat} {r : Nat} (h : rs.getLast? = some r) : lastV rs = ptr r := by simp [lastV, optPtr, h]
theorem Links.last {w : World} {v : Value} {fs : List Lk.Fr} {rs : List Nat} (h : Links w v fs rs) {r : Nat} (hr : rs.getLast? = some r) : ∃ f nx, Is w r 167 (wtV f nx) := h.is r (List.mem_of_getLast? hr)
theorem putRow_first (b o : Nat) (T : TypeId) (cs : List Value) (f : Lk.Fr) (w : World) (hI : Is w b T cs) (h0 : cs[o]? = some (.pointer none)) (h1 : cs[o + 1]? = some (.pointer none)) :
    Calls Tryz.prog 45 #[.pointer (some ⟨b, o, none⟩), frA f] w fun e w' => e = .returned (.tuple #[]) ∧ Is w' b T ((cs.set o (ptr (w.heap.size + 1))).set (o + 1) (ptr (w.heap.size + 1))) ∧ Is w' (w.heap.size + 1) 167 (wtV f (.pointer none)) ∧ Only (· = b) w w' := by
  have c0 : w.cell? ⟨b, o, none⟩ = some (.pointer none) := by rw [hI.cell]; exact h0
  have c1 : w.cell? ⟨b, o + 1, none⟩ = some (.pointer none) := by rw [hI.cell]; exact h1
  have f0 := hI.free o
  have f1 := hI.free (o + 1)
  have hbl := hI.lt
  have HI := hide hI
  clear hI h0 h1
  go_enter Tryz.func45, Tryz.ntmps45
  go_wp2_with fail
  go_end0
  have hA := ((((uh HI).set o (ptr (w.heap.size + 1))).set (o + 1) (ptr (w.heap.size + 1))).alloc (.cells #[.int .i64 (f.k : Int), .int .i64 (f.st : Int), .string (bs f.d)] 79)).alloc (.cells (wtV f (.pointer none)).toArray 167)
  have hN := Is.new (((w.setCell ⟨b, o, none⟩ (ptr (w.heap.size + 1))).setCell ⟨b, o + 1, none⟩ (ptr (w.heap.size + 1))).alloc (.cells #[.int .i64 (f.k : Int), .int .i64 (f.st : Int), .string (bs f.d)] 79)) 167 (wtV f (.pointer none))
  rw [World.size_alloc, World.size_setCell, World.size_setCell] at hN
  refine ⟨rfl, hA, hN, ?_⟩
  exact ((((Only.refl (· = b) w).set b o _ (fun _ => rfl)).set b (o + 1) _ (fun _ => rfl)).alloc _).alloc _
theorem putRow_more (b o r : Nat) (T : TypeId) (cs : List Value) (f g : Lk.Fr) (nx : Value) (w : World) (hI : Is w b T cs) (hT : T ≠ 167) (q : Nat) (h0 : cs[o]? = some (ptr q)) (h1 : cs[o + 1]? = some (ptr r)) (hr : Is w r 167 (wtV g nx)) :
    Calls Tryz.prog 45 #[.pointer (some ⟨b, o, none⟩), frA f] w fun e w' => e = .returned (.tuple #[]) ∧ ∃ w1, Is w1 (w.heap.size + 1) 167 (wtV f (.pointer none)) ∧ Only (fun _ => False) w w1 ∧ w' = (w1.setCell ⟨r, 3, none⟩ (ptr (w.heap.size + 1))).setCell ⟨b, o + 1, none⟩ (ptr (w.heap.size + 1)) := by
  have c0 : w.cell? ⟨b, o, none⟩ = some (ptr q) := by rw [hI.cell]; exact h0
  have c1 : w.cell? ⟨b, o + 1, none⟩ = some (ptr r) := by rw [hI.cell]; exact h1
  unfold ptr at c0 c1
  have f1 := hI.free (o + 1)
  have hbl := hI.lt
  have r3 := hr.cell 3
  simp only [wtV, List.getElem?_cons_zero, List.getElem?_cons_succ] at r3
  have g3 := hr.free 3
  have hrl := hr.lt
  have hne : r ≠ b := fun e => by subst e; exact (hI.ne hr hT) rfl
  have HI := hide hI
  have HR := hide hr
  clear hI h0 h1 hr
  go_enter Tryz.func45, Tryz.ntmps45
  go_wp2_with fail
  go_end0
  refine ⟨rfl, (w.alloc (.cells #[.int .i64 (f.k : Int), .int .i64 (f.st : Int), .string (bs f.d)] 79)).alloc (.cells (wtV f (.pointer none)).toArray 167), ?_, ((Only.refl _ w).alloc _).alloc _, ?_⟩
  · have hN := Is.new (w.alloc (.cells #[.int .i64 (f.k : Int), .int .i64 (f.st : Int), .string (bs f.d)] 79)) 167 (wtV f (.pointer none))
    rw [World.size_alloc] at hN
    exact hN
  · rw [World.setCell_alloc_past _ r 3 _ (by simp; omega), World.setCell_alloc_past _ r 3 _ hrl, World.setCell_alloc_past _ b (o + 1) _ (by simp; omega), World.setCell_alloc_past _ b (o + 1) _ (by simp; omega)]
    rfl
theorem putRow_any (b o : Nat) (T : TypeId) (cs : List Value) (f : Lk.Fr) (fs : List Lk.Fr) (rs : List Nat) (w : World) (hI : Is w b T cs) (hT : T ≠ 167) (h0 : cs[o]? = some (firstV rs)) (h1 : cs[o + 1]? = some (lastV rs)) (hC : Chain w (firstV rs) (lastV rs) fs rs) :
    Calls Tryz.prog 45 #[.pointer (some ⟨b, o, none⟩), frA f] w fun e w' => e = .returned (.tuple #[]) ∧ ∃ n, w.heap.size ≤ n ∧ Is w' b T ((cs.set o (firstV (rs ++ [n]))).set (o + 1) (lastV (rs ++ [n]))) ∧ Chain w' (firstV (rs ++ [n])) (lastV (rs ++ [n])) (fs ++ [f]) (rs ++ [n]) ∧ Only (fun i => i = b ∨ i ∈ rs) w w' := by
  cases hl : rs.getLast? with
  | none =>
    obtain rfl : rs = [] := List.getLast?_eq_none_iff.1 hl
    have hfs := hC.links.len.1
    obtain rfl : fs = [] := List.eq_nil_of_length_eq_zero hfs
    refine (putRow_first b o T cs f w hI h0 h1).mono ?_
    rintro e w' ⟨rfl, hI', hN, hO⟩
    exact ⟨rfl, _, by omega, hI', Chain.put_first hN, hO.mono (fun i hi => .inl hi)⟩
  | some r =>
    obtain ⟨g, nx, hr⟩ := hC.links.last hl
    obtain ⟨q, qs, rfl⟩ : ∃ q qs, rs = q :: qs := by
      cases rs with
      | nil => simp at hl
      | cons q qs => exact ⟨q, qs, rfl⟩
    have hlt := hC.lt
    have hbn : b ∉ q :: qs := fun hm => by
      obtain ⟨_, _, hx⟩ := hC.links.is b hm
      exact hI.ne hx hT rfl
    refine (putRow_more b o r T cs f g nx w hI hT q h0 (h1.trans (congrArg some (lastV_of hl))) hr).mono ?_
    rintro e w' ⟨rfl, w1, hN, hO, rfl⟩
    have hmem : r ∈ q :: qs := List.mem_of_getLast? hl
    have hne : r ≠ b := fun e => hbn (e ▸ hmem)
    have hnn : w.heap.size + 1 ∉ q :: qs := fun hm => by have := hlt _ hm; omega
    have hC1 := (hC.only hO (fun _ _ h => h)).put_more hl hnn hN
    have hI1 := (hI.only hO (fun h => h)).other ⟨r, 3, none⟩ (ptr (w.heap.size + 1)) (fun e => hne e.symm)
    have hO1 : Only (fun i => i = b ∨ i ∈ q :: qs) w _ := (hO.mono (fun _ h => h.elim)).set r 3 (ptr (w.heap.size + 1)) (fun _ => .inr hmem)
    have hO2 := hO1.set b (o + 1) (ptr (w.heap.size + 1)) (fun _ => .inl rfl)
    have hT2 := (Turns.refl b (w1.setCell ⟨r, 3, none⟩ (ptr (w.heap.size + 1)))).set (o + 1) (ptr (w.heap.size + 1))
    refine ⟨rfl, w.heap.size + 1, by omega, ?_, ?_, hO2⟩
    · rw [lastV_snoc]
      have e : cs.set o (firstV (q :: qs ++ [w.heap.size + 1])) = cs := by
        have : cs[o]? = some (firstV (q :: qs ++ [w.heap.size + 1])) := h0
        exact set_self this
      rw [e]
      exact hI1.set (o + 1) _
    · rw [lastV_snoc]
      refine Chain.only hC1 (Only.of_turns hT2) (fun x hx e => ?_)
      subst e
      rcases List.mem_append.1 hx with hx | hx
      · exact hbn hx
      · simp at hx
        have := hI.lt
        omega
end Go.Proofs.YtbkpdapagfjmmaaGreatDoor

namespace Go.Proofs.YtbkpdapagfjmmaaGreatDoor
open Go.RowKit
def Gath (w : World) (g B : Nat) (xs : Lk.Bs) : Prop := ∃ v, Is w g 78 [v] ∧ w.ownsRow B 5 1 v xs.length (bytesV xs)
def gathV (g : Nat) : Value := .func (.func 35) #[] #[.pointer (some ⟨g, 0, none⟩)]
theorem Gath.lt {w : World} {g B : Nat} {xs : Lk.Bs} (h : Gath w g B xs) : g < w.heap.size := let ⟨_, h, _⟩ := h; h.lt
theorem Gath.only {S : Nat → Prop} {w w' : World} {g B : Nat} {xs : Lk.Bs} (h : Gath w g B xs) (k : Only S w w') (hS : ∀ i, S i → i < B) (hg : B ≤ g) : Gath w' g B xs := by
  obtain ⟨v, h1, h2⟩ := h
  exact ⟨v, h1.only k (fun hx => by have := hS g hx; omega), own_only h2 k (fun i hi hx => by have := hS i hx; have := (h2.lt i hi).1; omega)⟩
theorem gather_any (g B : Nat) (xs : Lk.Bs) (f : Lk.Fr) (w : World) (h : Gath w g B xs) (hg : B ≤ g) (hl : xs.length ≤ 2 ^ 44) (hk : f.k ≤ 7) (hst : f.st ≤ 268435455) (hd : f.d.length ≤ 64) :
    Calls Tryz.prog 35 #[frA f, .pointer (some ⟨g, 0, none⟩)] w fun e w' => e = .returned (.tuple #[]) ∧ Gath w' g B (xs ++ f.pack) ∧ Below B w w' := by
  obtain ⟨v, hI, ho⟩ := h
  have hgl := hI.lt
  have c0 := hI.cell 0
  simp only [List.getElem?_cons_zero] at c0
  obtain ⟨va, vn, vcap, hv, hvn⟩ := own_slice ho
  clear hvn
  have hI0 := hI.alloc (.cells #[.int .i64 (f.k : Int), .int .i64 (f.st : Int), .string (bs f.d)] 79)
  have ho0 := ho.alloc (.cells #[.int .i64 (f.k : Int), .int .i64 (f.st : Int), .string (bs f.d)] 79)
  have hb0 := (Below.refl B w).alloc (by omega) (.cells #[.int .i64 (f.k : Int), .int .i64 (f.st : Int), .string (bs f.d)] 79)
  have HC := hide (appendFrame_any B v xs f.k f.st (bs f.d) _ (by simp; omega) ho0 hl hk hst (by rw [bs_size]; exact hd))
  have HI0 := hide hI0
  have HB0 := hide hb0
  clear hI ho hI0 ho0 hb0
  subst hv
  go_enter Tryz.func35, Tryz.ntmps35
  go_wp2_with fail
  refine (uh HC).mono ?_
  rintro e w1 ⟨v1, rfl, ho1, hb1, hk1⟩
  have hI1 := hk1 _ _ _ (nbq rfl) (uh HI0)
  have d0 := hI1.cell 0
  have f0 := hI1.free 0
  have hl1 := hI1.lt
  simp only [List.getElem?_cons_zero] at d0
  have hbw := (uh HB0).trans hb1
  clear hb1 hk1
  obtain ⟨a1, n1, cap1, rfl, hn1⟩ := own_slice ho1
  have HO1 := hide ho1
  have HN1 := hide hn1
  clear ho1 hn1
  go_wp2_with fail
  go_end0
  have ho1 := uh HO1
  refine ⟨rfl, ⟨_, hI1.set 0 _, ?_⟩, hbw.setCell (by simpa using hg) _⟩
  have e : (bs f.d).data.toList = f.d := by simp [bs]
  rw [e] at ho1
  exact ho1.kept (grownBy_set w1 g 0 _) (.inr (fun e => own_ne ho1 hI1 (nbq rfl) e.symm))
theorem takeRow_none (b o g : Nat) (T : TypeId) (cs : List Value) (w : World) (hI : Is w b T cs) (h0 : cs[o]? = some (.pointer none)) :
    Calls Tryz.prog 37 #[.pointer (some ⟨b, o, none⟩), gathV g] w fun e w' => e = .returned (.bool false) ∧ w' = w := by
  have c0 : w.cell? ⟨b, o, none⟩ = some (.pointer none) := by rw [hI.cell]; exact h0
  have hbl := hI.lt
  clear hI h0
  unfold gathV
  go_enter Tryz.func37, Tryz.ntmps37
  go_wp2_with fail
  go_ret
  exact ⟨rfl, rfl⟩
theorem takeRow_some (b o g r B : Nat) (T : TypeId) (cs : List Value) (f : Lk.Fr) (fs : List Lk.Fr) (rs : List Nat) (xs : Lk.Bs) (w : World) (hI : Is w b T cs) (hT : T ≠ 167) (h0 : cs[o]? = some (firstV (r :: rs))) (h1 : cs[o + 1]? = some (lastV (r :: rs))) (hC : Chain w (firstV (r :: rs)) (lastV (r :: rs)) (f :: fs) (r :: rs))
    (hG : Gath w g B xs) (hg : B ≤ g) (hb : b < B) (hrB : ∀ x ∈ r :: rs, x < B) (hl : xs.length ≤ 2 ^ 44) (hk : f.k ≤ 7) (hst : f.st ≤ 268435455) (hd : f.d.length ≤ 64) :
    Calls Tryz.prog 37 #[.pointer (some ⟨b, o, none⟩), gathV g] w fun e w' => e = .returned (.bool true) ∧ Is w' b T ((cs.set o (firstV rs)).set (o + 1) (lastV rs)) ∧ Chain w' (firstV rs) (lastV rs) fs rs ∧ Gath w' g B (xs ++ f.pack) ∧ Only (fun i => i = b ∨ B ≤ i) w w' := by
  rcases hC.empty with ⟨h, _⟩ | ⟨f', fs', r', rs', hf, hr, _, hW, hC'⟩
  · cases h
  cases hf
  cases hr
  have hnd : r ∉ rs := (List.nodup_cons.1 hC.nodup).1
  have hrb : r ≠ b := fun e => by subst e; exact hI.ne hW hT rfl
  have c0 : w.cell? ⟨b, o, none⟩ = some (.pointer (some ⟨r, 0, none⟩)) := by rw [hI.cell]; exact h0
  have r0 := hW.cell 0
  have r1 := hW.cell 1
  have r2 := hW.cell 2
  simp only [wtV, List.getElem?_cons_zero, List.getElem?_cons_succ] at r0 r1 r2
  have hbl := hI.lt
  have hrl := hW.lt
  have hrB0 := hrB r (by simp)
  have HC := hide (gather_any g B xs f w hG hg hl hk hst hd)
  have HI := hide hI
  have HW := hide hW
  have HCC := hide hC'
  have HRB := hide hrB
  have HH0 := hide h0
  have HH1 := hide h1
  clear hI hW hC' hC hrB h0 h1 hG
  generalize hF : firstV rs = F at *
  generalize hL : lastV rs = L at *
  have HF := hide hF
  have HL := hide hL
  clear hF hL
  unfold gathV
  go_enter Tryz.func37, Tryz.ntmps37
  go_wp2_with fail
  refine (uh HC).mono ?_
  rintro e w1 ⟨rfl, hG1, hb1⟩
  have hI1 := (uh HI).below hb1 hb
  have hW1 := (uh HW).below hb1 hrB0
  have hC1 := Chain.only (uh HCC) (Only.of_belowB hb1) (fun x hx h => by have := uh HRB x (by simp [hx]); omega)
  have c0 : w1.cell? ⟨b, o, none⟩ = some (.pointer (some ⟨r, 0, none⟩)) := by rw [hI1.cell]; exact uh HH0
  have c1 : w1.cell? ⟨b, o + 1, none⟩ = some (lastV (r :: rs)) := by rw [hI1.cell]; exact uh HH1
  have f0 := hI1.free o
  have f1 := hI1.free (o + 1)
  have r3 := hW1.cell 3
  simp only [wtV, List.getElem?_cons_zero, List.getElem?_cons_succ] at r3
  have hbl := hI1.lt
  have hrl := hW1.lt
  have HI1 := hide hI1
  have HB1 := hide hb1
  clear hI1 hW1 hb1 r0 r1 r2
  have hgb : g ≠ b := by omega
  cases rs with
  | nil =>
    have e1 : F = .pointer none := (uh HF).symm
    have e2 : L = .pointer none := (uh HL).symm
    subst e1 e2
    have e3 : lastV [r] = .pointer (some ⟨r, 0, none⟩) := rfl
    rw [e3] at c1
    clear e3
    go_wp2_with fail
    go_ret
    have hT2 := ((Turns.refl b w1).set o (.pointer none)).set (o + 1) (.pointer none)
    have hO2 : Only (fun i => i = b) w1 _ := Only.of_turns hT2
    refine ⟨rfl, ((uh HI1).set o _).set (o + 1) _, hC1.only hO2 (fun x hx => by simp at hx), hG1.only hO2 (fun i hi => by omega) hg, ?_⟩
    exact ((Only.of_belowB (uh HB1)).mono (fun i hi => .inr hi)).trans hO2 (fun i hi _ => .inl hi)
  | cons q qs =>
    have e1 : F = .pointer (some ⟨q, 0, none⟩) := (uh HF).symm
    subst e1
    have e3 : lastV (r :: q :: qs) = L := by rw [← uh HL]; exact lastV_cons (by simp)
    rw [e3] at c1
    go_wp2_with fail
    go_ret
    have hT2 := (Turns.refl b w1).set o (.pointer (some ⟨q, 0, none⟩))
    have hO2 : Only (fun i => i = b) w1 _ := Only.of_turns hT2
    refine ⟨rfl, ?_, hC1.only hO2 (fun x hx e => ?_), hG1.only hO2 (fun i hi => by omega) hg, ?_⟩
    · have hx := (uh HI1).set o (.pointer (some ⟨q, 0, none⟩))
      have e4 : (cs.set o (.pointer (some ⟨q, 0, none⟩))).set (o + 1) L = cs.set o (.pointer (some ⟨q, 0, none⟩)) := by
        apply set_self
        rw [List.getElem?_set_ne (by omega), uh HH1, e3]
      rw [e4]
      exact hx
    · subst e
      obtain ⟨_, _, hy⟩ := (uh HCC).links.is x hx
      exact (uh HI).ne hy hT rfl
    · exact ((Only.of_belowB (uh HB1)).mono (fun i hi => .inr hi)).trans hO2 (fun i hi _ => .inl hi)
end Go.Proofs.YtbkpdapagfjmmaaGreatDoor
