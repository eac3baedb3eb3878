import Derived.Test.YtbkpdapagfjmmaaDoorPD
/-
  Walks: drop, find: streams of its own.
-/
namespace Go.Proofs.YtbkpdapagfjmmaaDoor
open Go.RowKit

theorem indexFunc_nil (sb : Nat) (w : World) : Calls Tryd.prog 110 #[.slice none 0 0, dropV sb] w fun e w' => e = .returned (.int .i64 (-1)) ∧ w' = w := by
  unfold dropV
  go_enter Tryd.func110, Tryd.ntmps110
  go_wp2_with fail
  refine wp_loop_rounds 1 ?_
  rw [rounds_succ]
  go_wp2_with fail
  go_ret
  exact ⟨rfl, rfl⟩
theorem deleteFunc_nil (sb : Nat) (w : World) : Calls Tryd.prog 104 #[.slice none 0 0, dropV sb] w fun e w' => e = .returned (.slice none 0 0) ∧ w' = w := by
  have HC := hide (indexFunc_nil sb w)
  unfold dropV at *
  go_enter Tryd.func104, Tryd.ntmps104
  go_wp2_with fail
  refine (unhide HC).mono ?_
  rintro e w1 ⟨rfl, rfl⟩
  go_wp2_with fail
  go_ret
  exact ⟨rfl, rfl⟩

def dropL {α : Type} (R : Option Nat) (l : List α) : List α := match R with
  | some i => l.eraseIdx i
  | none => l
/-- No two streams have one number. -/
def Apart (os : List Lk.Ow) : Prop := ∀ (i j : Nat) (o x : Lk.Ow), os[i]? = some o → os[j]? = some x → o.id = x.id → i = j
def rowLen : Value → Nat
  | .slice _ n _ => n
  | _ => 0

theorem deleteFunc_any (v : Value) (sb B : Nat) (os : List Lk.Ow) (ps : List Nat) (k : Int) (R : Option Nat) (w : World) (hO : Outs w os ps) (ho : w.ownsRow B 143 1 v ps.length (ps.map ptr)) (h4 : ps.length ≤ 1000) (hs : sb < w.heap.size) (c : w.cell? ⟨sb, 0, none⟩ = some (.int .i64 k)) (hsg : v.ownBlock ≠ some sb) (ha : Apart os)
    (hR : os.findIdx? (isId k) = R) :
    Calls Tryd.prog 104 #[v, dropV sb] w fun e w' =>
      ∃ a n cap, e = .returned (.slice a n cap) ∧ w'.ownsRow B 143 1 (.slice a n cap) (dropL R ps).length ((dropL R ps).map ptr) ∧ n = (dropL R ps).length ∧ (Value.slice a n cap).ownBlock = v.ownBlock ∧ Only (fun i => some i = v.ownBlock) w w' := by
  rcases ho.2 with ⟨rfl, h0⟩ | ⟨g, cap, cur, rfl, _⟩
  · obtain rfl : ps = [] := List.eq_nil_of_length_eq_zero h0
    have hol := hO.len
    obtain rfl : os = [] := List.eq_nil_of_length_eq_zero (by simpa using hol)
    simp at hR
    subst hR
    refine (deleteFunc_nil sb w).mono ?_
    rintro e w' ⟨rfl, rfl⟩
    exact ⟨_, _, _, rfl, ho, rfl, rfl, Only.refl _ _⟩
  · cases hRR : R with
    | none =>
      subst hRR
      refine (deleteFunc_none g ps.length cap sb B os ps k w hO ho (hide rfl) h4 hs c hR).mono ?_
      rintro e w' ⟨rfl, n, rfl⟩
      exact ⟨_, _, _, rfl, ho, rfl, rfl, (Only.refl _ _).drewN n⟩
    | some i =>
      subst hRR
      have hfi := List.findIdx?_eq_some_iff_getElem.1 hR
      obtain ⟨hil, hii, _⟩ := hfi
      refine (deleteFunc_some g ps.length cap sb B i os ps k w hO ho (hide rfl) h4 hs c (fun e => hsg (by subst e; rfl)) hR (fun j o hj hx => ?_)).mono ?_
      · refine ha j i o os[i] hj (List.getElem?_eq_getElem hil) ?_
        unfold isId at hx hii
        simp at hx hii
        omega
      rintro e w' ⟨rfl, ho', hO'⟩
      have hl : ps.length - 1 = (ps.eraseIdx i).length := by rw [List.length_eraseIdx_of_lt (by rw [← hO.len]; exact hil)]
      exact ⟨_, _, _, rfl, ho', hl, rfl, hO'.mono (fun x hx => by subst hx; rfl)⟩

set_option maxHeartbeats 1000000 in
set_option maxRecDepth 100000 in
theorem drop_any (b B : Nat) (T : TypeId) (cs : List Value) (v : Value) (os : List Lk.Ow) (ps : List Nat) (k : Int) (R : Option Nat) (w : World) (hI : Is w b T cs) (hT : T ≠ 143) (hT2 : T ≠ 147) (h10 : cs[10]? = some v) (hO : Outs w os ps) (ho : w.ownsRow B 143 1 v ps.length (ps.map ptr)) (h4 : ps.length ≤ 1000) (ha : Apart os)
    (hR : os.findIdx? (isId k) = R) :
    Calls Tryd.prog 75 #[.pointer (some ⟨b, 3, none⟩), .int .i64 k] w fun e w' =>
      e = .returned (.bool R.isSome) ∧ ∃ v', Is w' b T (cs.set 10 v') ∧ w'.ownsRow B 143 1 v' (dropL R ps).length ((dropL R ps).map ptr) ∧ v'.ownBlock = v.ownBlock ∧ Outs w' os ps ∧ Only (fun i => i = b ∨ some i = v.ownBlock) w w' := by
  obtain ⟨va, vn, vcap, rfl, hvn⟩ := own_slice ho
  have c10 : w.cell? ⟨b, 10, none⟩ = some (.slice va vn vcap) := by rw [hI.cell]; exact h10
  have hbl := hI.lt
  have hsg : (Value.slice va vn vcap).ownBlock ≠ some w.heap.size := fun e => by have := (ho.lt _ e).2; omega
  have HC := hide (deleteFunc_any (.slice va vn vcap) w.heap.size B os ps k R (w.alloc (.cells #[.int .i64 k] 3)) (hO.only ((Only.refl (fun _ => False) w).alloc _) (fun _ _ h => h)) (ho.alloc _) h4 (by simp) ((Is.new w 3 [.int .i64 k]).cell 0) hsg ha hR)
  have hne : some b ≠ (Value.slice va vn vcap).ownBlock := own_ne ho hI hT
  have HNE := hide hne
  have HOW := hide ho
  have HO := hide hO
  have HI := hide hI
  have HVN := hide hvn
  have HR := hide hR
  have hRle : (dropL R ps).length + (if R.isSome then 1 else 0) = ps.length := by
    subst hR
    cases hf : os.findIdx? (isId k) with
    | none => rfl
    | some i =>
      have := (List.findIdx?_eq_some_iff_getElem.1 hf).1
      simp only [dropL, Option.isSome, if_true]
      rw [List.length_eraseIdx_of_lt (by rw [← hO.len]; exact this)]
      have := hO.len
      omega
  have HRL := hide hRle
  clear hI hO ho hne hvn hRle ha hR h10 hsg
  unfold dropV at *
  go_enter Tryd.func75, Tryd.ntmps75
  go_wp2_with fail
  refine (unhide HC).mono ?_
  rintro e w1 ⟨a, n, cap, rfl, ho1, hn1, hob, hO1⟩
  have hO2 : Only (fun i => some i = (Value.slice va vn vcap).ownBlock) w w1 := ((Only.refl _ w).alloc (.cells #[.int .i64 k] 3)).trans hO1 (fun i hi _ => hi)
  have hI1 := (unhide HI).only hO2 (unhide HNE)
  have c1 : w1.cell? ⟨b, 10, none⟩ = some (.slice va vn vcap) := by rw [hI1.cell, ← (unhide HI).cell]; exact c10
  have f1 := hI1.free 10
  have hb1 := hI1.lt
  have HN1 := hide hn1
  have HO1 := hide ho1
  have HB := hide hob
  have HO2 := hide hO2
  have HI1 := hide hI1
  clear hn1 ho1 hob hO1 hO2 hI1 c10
  go_wp2_with fail
  go_ret
  have ho1 := unhide HO1
  have hI1 := unhide HI1
  have hne1 := own_ne ho1 hI1 hT
  refine ⟨ret_bool ?_, _, hI1.set 10 _, ho1.kept (grownBy_set w1 b 10 _) (.inr (fun e => hne1 e.symm)), unhide HB, ?_, ?_⟩
  · have h1 := unhide HRL
    have h2 := unhide HN1
    have h3 := unhide HVN
    rw [Bool.eq_iff_iff]
    cases R <;> simp at h1 ⊢ <;> omega
  · have hOa := (unhide HO).only (unhide HO2) (fun p hp e => ?_)
    · refine hOa.only (Only.of_turns ((Turns.refl b w1).set 10 _)) (fun p hp e => ?_)
      obtain ⟨o, hIp⟩ := hOa.mem hp
      subst e
      exact hI1.ne hIp hT2 rfl
    · obtain ⟨o, hIp⟩ := (unhide HO).mem hp
      exact own_ne (unhide HOW) hIp (Nat.ne_of_beq_eq_false rfl) e
  · exact ((unhide HO2).mono (fun i hi => .inr hi)).set b 10 _ (fun _ => .inl rfl)

theorem find_nil (b : Nat) (k : Int) (w : World) (_hb : b < w.heap.size) (c : w.cell? ⟨b, 10, none⟩ = some (.slice none 0 0)) : Calls Tryd.prog 100 #[.pointer (some ⟨b, 3, none⟩), .int .i64 k] w fun e w' => e = .returned (.tuple #[.pointer none, .bool false]) ∧ w' = w := by
  go_enter Tryd.func100, Tryd.ntmps100
  go_wp2_with fail
  refine wp_loop_rounds 1 ?_
  rw [rounds_succ]
  go_wp2_with fail
  go_ret2
  exact ⟨rfl, rfl⟩

set_option maxHeartbeats 1000000 in
set_option maxRecDepth 100000 in
theorem find_some (b B g m cap : Nat) (os : List Lk.Ow) (ps : List Nat) (k : Int) (R : Option Nat) (w : World) (hb : b < w.heap.size) (c : w.cell? ⟨b, 10, none⟩ = some (.slice (some ⟨g, 0, none⟩) m cap)) (hO : Outs w os ps) (ho : w.ownsRow B 143 1 (.slice (some ⟨g, 0, none⟩) m cap) ps.length (ps.map ptr)) (hm : Hid (m = ps.length)) (h4 : m ≤ 1000)
    (hR : Hid (os.findIdx? (isId k) = R)) :
    Calls Tryd.prog 100 #[.pointer (some ⟨b, 3, none⟩), .int .i64 k] w fun e w' => e = .returned (.tuple #[optPtr (R.bind fun i => ps[i]?), .bool R.isSome]) ∧ w' = w := by
  have hol := hO.len
  have HOL := hide hol
  have HO := hide hO
  have HW := hide ho
  clear hO ho hol
  go_enter Tryd.func100, Tryd.ntmps100
  go_wp2_with fail
  go_loopw [13] (fun u wr => ∃ j : Nat, u = .int .i64 j ∧ j ≤ m ∧ Hid (∀ i o, i < j → os[i]? = some o → isId k o = false) ∧ wr = w) (fun u _ => m - (intOf u).toNat)
  case atStart => exact ⟨0, rfl, by omega, fun i o hi => by omega, rfl⟩
  case round =>
    obtain ⟨j, rfl, hj, HJ, rfl⟩ := hrel
    by_cases hlt : j < m
    · have hme := unhide hm
      have hol := unhide HOL
      obtain ⟨o, p, ho, hp, hI⟩ := (unhide HO).get (i := j) (by omega)
      obtain ⟨hg, cp⟩ := row_ptr (unhide HW) hp
      have hlt' : (j : Int) < m := by omega
      have c0 := hI.cell 0
      simp only [owV, List.getElem?_cons_zero] at c0
      have hpl := hI.lt
      have HOJ := hide ho
      have HP := hide hp
      have hjo : j < os.length := by omega
      clear hI ho hp hme hol
      by_cases hk : (o.id : Int) == k
      · have hRR : R = some j := by
          rw [← unhide hR]
          rw [List.findIdx?_eq_some_iff_getElem]
          refine ⟨hjo, ?_, ?_⟩
          · have := unhide HOJ
            rw [List.getElem?_eq_getElem hjo] at this
            cases this
            exact hk
          · intro i hi
            have := unhide HJ i os[i] hi (List.getElem?_eq_getElem (by omega))
            simp [this]
        subst hRR
        go_wp2_with fail
        go_ret2
        refine ⟨?_, rfl⟩
        have := unhide HP
        simp [this, optPtr, ptr]
      · have hk' : ((o.id : Int) == k) = false := by simpa using hk
        go_wp2_with fail
        go_roundw
        case rel =>
          refine ⟨j + 1, by simp, by omega, ?_, by first | rfl | trivial⟩
          intro i x hi hx
          by_cases e : i = j
          · subst e
            rw [unhide HOJ] at hx
            cases hx
            exact hk'
          · exact unhide HJ i x (by omega) hx
        case measure => simp [intOf]; omega
    · have hlt' : ¬ (j : Int) < m := by omega
      have hRR : R = none := by
        have hme := unhide hm
        have hol := unhide HOL
        rw [← unhide hR]
        rw [List.findIdx?_eq_none_iff]
        intro x hx
        obtain ⟨i, hi⟩ := List.getElem?_of_mem hx
        refine unhide HJ i x ?_ hi
        rcases Nat.lt_or_ge i os.length with h | h
        · omega
        · rw [List.getElem?_eq_none h] at hi; cases hi
      subst hRR
      go_wp2_with fail
      go_ret2
      exact ⟨rfl, rfl⟩
theorem find_any (b B : Nat) (T : TypeId) (cs : List Value) (v : Value) (os : List Lk.Ow) (ps : List Nat) (k : Int) (R : Option Nat) (w : World) (hI : Is w b T cs) (h10 : cs[10]? = some v) (hO : Outs w os ps) (ho : w.ownsRow B 143 1 v ps.length (ps.map ptr)) (h4 : ps.length ≤ 1000)
    (hR : os.findIdx? (isId k) = R) :
    Calls Tryd.prog 100 #[.pointer (some ⟨b, 3, none⟩), .int .i64 k] w fun e w' => e = .returned (.tuple #[optPtr (R.bind fun i => ps[i]?), .bool R.isSome]) ∧ w' = w := by
  have c : w.cell? ⟨b, 10, none⟩ = some v := by rw [hI.cell]; exact h10
  rcases ho.2 with ⟨rfl, h0⟩ | ⟨g, cap, cur, rfl, _⟩
  · obtain rfl : ps = [] := List.eq_nil_of_length_eq_zero h0
    have hol := hO.len
    obtain rfl : os = [] := List.eq_nil_of_length_eq_zero (by simpa using hol)
    simp at hR
    subst hR
    exact find_nil b k w hI.lt c
  · exact find_some b B g ps.length cap os ps k R w hI.lt c hO ho (hide rfl) h4 hR
end Go.Proofs.YtbkpdapagfjmmaaDoor

/-
  Walks: which stream sends, and how much.
-/
namespace Go.Proofs.YtbkpdapagfjmmaaDoor
open Go.RowKit

def mostN (all : Nat) (o : Lk.Ow) : Nat := min (min o.left.length 16) (min o.cr all)
theorem run_min4 (P : Program) (w : World) (ts : Array TypeId) (t : TypeId) (a b c d : Int) : (Builtin.min_ ts t #[.int .i64 a, .int .i64 b, .int .i64 c, .int .i64 d]).run P w = .ok (.int .i64 (min (min (min a b) c) d)) w := by
  have e : ∀ x y : Int, (if y < x then y else x) = min x y := fun x y => by
    split <;> omega
  show (List.foldlM Builtin.min2 (.int .i64 a) [.int .i64 b, .int .i64 c, .int .i64 d] : Sem Value).run P w = _
  simp only [List.foldlM, Builtin.min2, e]
  rfl
theorem run_max2 (P : Program) (w : World) (ts : Array TypeId) (t : TypeId) (a b : Int) : (Builtin.max_ ts t #[.int .i64 a, .int .i64 b]).run P w = .ok (.int .i64 (max a b)) w := by
  have e : ∀ x y : Int, (if x < y then y else x) = max x y := fun x y => by
    split <;> omega
  show (List.foldlM Builtin.max2 (.int .i64 a) [.int .i64 b] : Sem Value).run P w = _
  simp only [List.foldlM, Builtin.max2, e]
  rfl
theorem most_any (b p all : Nat) (o : Lk.Ow) (w : World) (_hb : b < w.heap.size) (c : w.cell? ⟨b, 9, none⟩ = some (.int .i64 (all : Int))) (hI : Is w p 147 (owV o)) :
    Calls Tryd.prog 74 #[.pointer (some ⟨b, 3, none⟩), .pointer (some ⟨p, 0, none⟩)] w fun e w' => e = .returned (.int .i64 (mostN all o : Int)) ∧ ∃ n, w' = w.drewN n := by
  have c1 := hI.cell 1
  have c2 := hI.cell 2
  simp only [owV, List.getElem?_cons_zero, List.getElem?_cons_succ] at c1 c2
  have hl := hI.lt
  have hs := bs_size o.left
  clear hI
  go_enter Tryd.func74, Tryd.ntmps74
  go_wp2_with fail
  have hmin := fun (W : World) => run_min4 Tryd.prog W #[3, 3, 3, 3] 3 (o.left.length : Int) 16 (o.cr : Int) (all : Int)
  go_region
  go_wp2_with fail
  go_ret
  refine ⟨ret_int ?_, by first | exact ⟨1, rfl⟩ | exact ⟨_, rfl⟩⟩
  unfold mostN
  omega

def mayN (all : Nat) (o : Lk.Ow) : Bool := o.left.isEmpty || decide (0 < mostN all o)
theorem maySend_any (b p all : Nat) (o : Lk.Ow) (w : World) (hb : b < w.heap.size) (c : w.cell? ⟨b, 9, none⟩ = some (.int .i64 (all : Int))) (hI : Is w p 147 (owV o)) :
    Calls Tryd.prog 103 #[.pointer (some ⟨b, 3, none⟩), .pointer (some ⟨p, 0, none⟩)] w fun e w' => e = .returned (.bool (mayN all o)) ∧ ∃ n, w' = w.drewN n := by
  have HC := hide (most_any b p all o w hb c hI)
  have c2 := hI.cell 2
  simp only [owV, List.getElem?_cons_zero, List.getElem?_cons_succ] at c2
  have hl := hI.lt
  generalize hM : mayN all o = M
  have HM := hide hM
  clear hI hM
  by_cases h : o.left = []
  · rw [h] at c2
    have e : bs [] = ⟨#[]⟩ := rfl
    rw [e] at c2
    go_enter Tryd.func103, Tryd.ntmps103
    go_wp2_with fail
    go_ret
    refine ⟨ret_bool ?_, 0, rfl⟩
    rw [← unhide HM]
    simp [mayN, h]
  · have hne : ((bs o.left).toList == (⟨#[]⟩ : ByteArray).toList) = false := by
      rw [beq_eq_false_iff_ne]
      intro e
      rw [ByteArray.toList_eq, ByteArray.toList_eq] at e
      simp [bs] at e
      exact h e
    have hne2 : (bs o.left).toList.isEmpty = false := by
      rw [ByteArray.toList_eq]
      cases hx : o.left with
      | nil => exact absurd hx h
      | cons a t => simp [bs]
    have hpos : o.left.isEmpty = false := by
      cases hx : o.left with
      | nil => exact absurd hx h
      | cons a t => rfl
    go_enter Tryd.func103, Tryd.ntmps103
    go_wp2_with fail
    refine (unhide HC).mono ?_
    rintro e w1 ⟨rfl, n, rfl⟩
    go_wp2_with fail
    go_ret
    refine ⟨ret_bool ?_, n, rfl⟩
    rw [← unhide HM]
    simp [mayN, hpos]
end Go.Proofs.YtbkpdapagfjmmaaDoor
