import Derived.Test.YtbkpdapagfjmmaaGreatDoorMN2PD
/-
  Walks: drop, find: streams of its own.
-/
namespace Go.Proofs.YtbkpdapagfjmmaaGreatDoor
open Go.RowKit

theorem indexFunc_nil (sb : Nat) (w : World) : Calls Tryz.prog 166 #[.slice none 0 0, dropV sb] w fun e w' => e = .returned (.int .i64 (-1)) ∧ w' = w := by
  unfold dropV
  go_enter Tryz.func166, Tryz.ntmps166
  go_wp2_with fail
  refine wp_loop_rounds 1 ?_
  rw [rounds_succ]
  go_wp2_with fail
  go_ret
  exact ⟨rfl, rfl⟩
theorem deleteFunc_nil (sb : Nat) (w : World) : Calls Tryz.prog 123 #[.slice none 0 0, dropV sb] w fun e w' => e = .returned (.slice none 0 0) ∧ w' = w := by
  have HC := hide (indexFunc_nil sb w)
  unfold dropV at *
  go_enter Tryz.func123, Tryz.ntmps123
  go_wp2_with fail
  refine (unhide HC).mono ?_
  rintro e w1 ⟨rfl, rfl⟩
  go_wp2_with fail
  go_ret
  exact ⟨rfl, rfl⟩

def dropL {α : Type} (R : Option Nat) (l : List α) : List α := match R with
  | some i => l.eraseIdx i
  | none => l
/-- No two streams have one number. -/
def Apart (os : List Lk.Ow) : Prop := ∀ (i j : Nat) (o x : Lk.Ow), os[i]? = some o → os[j]? = some x → o.id = x.id → i = j
def rowLen : Value → Nat
  | .slice _ n _ => n
  | _ => 0

theorem deleteFunc_any (v : Value) (sb B : Nat) (os : List Lk.Ow) (ps : List Nat) (k : Int) (R : Option Nat) (w : World) (hO : Outs w os ps) (ho : w.ownsRow B 169 1 v ps.length (ps.map ptr)) (h4 : ps.length ≤ 1000) (hs : sb < w.heap.size) (c : w.cell? ⟨sb, 0, none⟩ = some (.int .i64 k)) (hsg : v.ownBlock ≠ some sb) (ha : Apart os)
    (hR : os.findIdx? (isId k) = R) :
    Calls Tryz.prog 123 #[v, dropV sb] w fun e w' =>
      ∃ a n cap, e = .returned (.slice a n cap) ∧ w'.ownsRow B 169 1 (.slice a n cap) (dropL R ps).length ((dropL R ps).map ptr) ∧ n = (dropL R ps).length ∧ (Value.slice a n cap).ownBlock = v.ownBlock ∧ Only (fun i => some i = v.ownBlock) w w' := by
  rcases ho.2 with ⟨rfl, h0⟩ | ⟨g, cap, cur, rfl, _⟩
  · obtain rfl : ps = [] := List.eq_nil_of_length_eq_zero h0
    have hol := hO.len
    obtain rfl : os = [] := List.eq_nil_of_length_eq_zero (by simpa using hol)
    simp at hR
    subst hR
    refine (deleteFunc_nil sb w).mono ?_
    rintro e w' ⟨rfl, rfl⟩
    exact ⟨_, _, _, rfl, ho, rfl, rfl, Only.refl _ _⟩
  · cases hRR : R with
    | none =>
      subst hRR
      refine (deleteFunc_none g ps.length cap sb B os ps k w hO ho (hide rfl) h4 hs c hR).mono ?_
      rintro e w' ⟨rfl, n, rfl⟩
      exact ⟨_, _, _, rfl, ho, rfl, rfl, (Only.refl _ _).drewN n⟩
    | some i =>
      subst hRR
      have hfi := List.findIdx?_eq_some_iff_getElem.1 hR
      obtain ⟨hil, hii, _⟩ := hfi
      refine (deleteFunc_some g ps.length cap sb B i os ps k w hO ho (hide rfl) h4 hs c (fun e => hsg (by subst e; rfl)) hR (fun j o hj hx => ?_)).mono ?_
      · refine ha j i o os[i] hj (List.getElem?_eq_getElem hil) ?_
        unfold isId at hx hii
        simp at hx hii
        omega
      rintro e w' ⟨rfl, ho', hO'⟩
      have hl : ps.length - 1 = (ps.eraseIdx i).length := by rw [List.length_eraseIdx_of_lt (by rw [← hO.len]; exact hil)]
      exact ⟨_, _, _, rfl, ho', hl, rfl, hO'.mono (fun x hx => by subst hx; rfl)⟩

set_option maxHeartbeats 1000000 in
set_option maxRecDepth 100000 in
theorem drop_any (b B : Nat) (T : TypeId) (cs : List Value) (v : Value) (os : List Lk.Ow) (ps : List Nat) (k : Int) (R : Option Nat) (w : World) (hI : Is w b T cs) (hT : T ≠ 169) (hT2 : T ≠ 173) (h10 : cs[10]? = some v) (hO : Outs w os ps) (ho : w.ownsRow B 169 1 v ps.length (ps.map ptr)) (h4 : ps.length ≤ 1000) (ha : Apart os)
    (hR : os.findIdx? (isId k) = R) :
    Calls Tryz.prog 75 #[.pointer (some ⟨b, 3, none⟩), .int .i64 k] w fun e w' =>
      e = .returned (.bool R.isSome) ∧ ∃ v', Is w' b T (cs.set 10 v') ∧ w'.ownsRow B 169 1 v' (dropL R ps).length ((dropL R ps).map ptr) ∧ v'.ownBlock = v.ownBlock ∧ Outs w' os ps ∧ Only (fun i => i = b ∨ some i = v.ownBlock) w w' := by
  obtain ⟨va, vn, vcap, rfl, hvn⟩ := own_slice ho
  have c10 : w.cell? ⟨b, 10, none⟩ = some (.slice va vn vcap) := by rw [hI.cell]; exact h10
  have hbl := hI.lt
  have hsg : (Value.slice va vn vcap).ownBlock ≠ some w.heap.size := fun e => by have := (ho.lt _ e).2; omega
  have HC := hide (deleteFunc_any (.slice va vn vcap) w.heap.size B os ps k R (w.alloc (.cells #[.int .i64 k] 3)) (hO.only ((Only.refl (fun _ => False) w).alloc _) (fun _ _ h => h)) (ho.alloc _) h4 (by simp) ((Is.new w 3 [.int .i64 k]).cell 0) hsg ha hR)
  have hne : some b ≠ (Value.slice va vn vcap).ownBlock := own_ne ho hI hT
  have HNE := hide hne
  have HOW := hide ho
  have HO := hide hO
  have HI := hide hI
  have HVN := hide hvn
  have HR := hide hR
  have hRle : (dropL R ps).length + (if R.isSome then 1 else 0) = ps.length := by
    subst hR
    cases hf : os.findIdx? (isId k) with
    | none => rfl
    | some i =>
      have := (List.findIdx?_eq_some_iff_getElem.1 hf).1
      simp only [dropL, Option.isSome, if_true]
      rw [List.length_eraseIdx_of_lt (by rw [← hO.len]; exact this)]
      have := hO.len
      omega
  have HRL := hide hRle
  clear hI hO ho hne hvn hRle ha hR h10 hsg
  unfold dropV at *
  go_enter Tryz.func75, Tryz.ntmps75
  go_wp2_with fail
  refine (unhide HC).mono ?_
  rintro e w1 ⟨a, n, cap, rfl, ho1, hn1, hob, hO1⟩
  have hO2 : Only (fun i => some i = (Value.slice va vn vcap).ownBlock) w w1 := ((Only.refl _ w).alloc (.cells #[.int .i64 k] 3)).trans hO1 (fun i hi _ => hi)
  have hI1 := (unhide HI).only hO2 (unhide HNE)
  have c1 : w1.cell? ⟨b, 10, none⟩ = some (.slice va vn vcap) := by rw [hI1.cell, ← (unhide HI).cell]; exact c10
  have f1 := hI1.free 10
  have hb1 := hI1.lt
  have HN1 := hide hn1
  have HO1 := hide ho1
  have HB := hide hob
  have HO2 := hide hO2
  have HI1 := hide hI1
  clear hn1 ho1 hob hO1 hO2 hI1 c10
  go_wp2_with fail
  go_ret
  have ho1 := unhide HO1
  have hI1 := unhide HI1
  have hne1 := own_ne ho1 hI1 hT
  refine ⟨ret_bool ?_, _, hI1.set 10 _, ho1.kept (grownBy_set w1 b 10 _) (.inr (fun e => hne1 e.symm)), unhide HB, ?_, ?_⟩
  · have h1 := unhide HRL
    have h2 := unhide HN1
    have h3 := unhide HVN
    rw [Bool.eq_iff_iff]
    cases R <;> simp at h1 ⊢ <;> omega
  · have hOa := (unhide HO).only (unhide HO2) (fun p hp e => ?_)
    · refine hOa.only (Only.of_turns ((Turns.refl b w1).set 10 _)) (fun p hp e => ?_)
      obtain ⟨o, hIp⟩ := hOa.mem hp
      subst e
      exact hI1.ne hIp hT2 rfl
    · obtain ⟨o, hIp⟩ := (unhide HO).mem hp
      exact own_ne (unhide HOW) hIp (Nat.ne_of_beq_eq_false rfl) e
  · exact ((unhide HO2).mono (fun i hi => .inr hi)).set b 10 _ (fun _ => .inl rfl)

theorem find_nil (b : Nat) (k : Int) (w : World) (_hb : b < w.heap.size) (c : w.cell? ⟨b, 10, none⟩ = some (.slice none 0 0)) : Calls Tryz.prog 147 #[.pointer (some ⟨b, 3, none⟩), .int .i64 k] w fun e w' => e = .returned (.tuple #[.pointer none, .bool false]) ∧ w' = w := by
  go_enter Tryz.func147, Tryz.ntmps147
  go_wp2_with fail
  refine wp_loop_rounds 1 ?_
  rw [rounds_succ]
  go_wp2_with fail
  go_ret2
  exact ⟨rfl, rfl⟩

set_option maxHeartbeats 1000000 in
set_option maxRecDepth 100000 in
theorem find_some (b B g m cap : Nat) (os : List Lk.Ow) (ps : List Nat) (k : Int) (R : Option Nat) (w : World) (hb : b < w.heap.size) (c : w.cell? ⟨b, 10, none⟩ = some (.slice (some ⟨g, 0, none⟩) m cap)) (hO : Outs w os ps) (ho : w.ownsRow B 169 1 (.slice (some ⟨g, 0, none⟩) m cap) ps.length (ps.map ptr)) (hm : Hid (m = ps.length)) (h4 : m ≤ 1000)
    (hR : Hid (os.findIdx? (isId k) = R)) :
    Calls Tryz.prog 147 #[.pointer (some ⟨b, 3, none⟩), .int .i64 k] w fun e w' => e = .returned (.tuple #[optPtr (R.bind fun i => ps[i]?), .bool R.isSome]) ∧ w' = w := by
  have hol := hO.len
  have HOL := hide hol
  have HO := hide hO
  have HW := hide ho
  clear hO ho hol
  go_enter Tryz.func147, Tryz.ntmps147
  go_wp2_with fail
  go_loopw [13] (fun u wr => ∃ j : Nat, u = .int .i64 j ∧ j ≤ m ∧ Hid (∀ i o, i < j → os[i]? = some o → isId k o = false) ∧ wr = w) (fun u _ => m - (intOf u).toNat)
  case atStart => exact ⟨0, rfl, by omega, fun i o hi => by omega, rfl⟩
  case round =>
    obtain ⟨j, rfl, hj, HJ, rfl⟩ := hrel
    by_cases hlt : j < m
    · have hme := unhide hm
      have hol := unhide HOL
      obtain ⟨o, p, ho, hp, hI⟩ := (unhide HO).get (i := j) (by omega)
      obtain ⟨hg, cp⟩ := row_ptr (unhide HW) hp
      have hlt' : (j : Int) < m := by omega
      have c0 := hI.cell 0
      simp only [owV, List.getElem?_cons_zero] at c0
      have hpl := hI.lt
      have HOJ := hide ho
      have HP := hide hp
      have hjo : j < os.length := by omega
      clear hI ho hp hme hol
      by_cases hk : (o.id : Int) == k
      · have hRR : R = some j := by
          rw [← unhide hR]
          rw [List.findIdx?_eq_some_iff_getElem]
          refine ⟨hjo, ?_, ?_⟩
          · have := unhide HOJ
            rw [List.getElem?_eq_getElem hjo] at this
            cases this
            exact hk
          · intro i hi
            have := unhide HJ i os[i] hi (List.getElem?_eq_getElem (by omega))
            simp [this]
        subst hRR
        go_wp2_with fail
        go_ret2
        refine ⟨?_, rfl⟩
        have := unhide HP
        simp [this, optPtr, ptr]
      · have hk' : ((o.id : Int) == k) = false := by simpa using hk
        go_wp2_with fail
        go_roundw
        case rel =>
          refine ⟨j + 1, by simp, by omega, ?_, by first | rfl | trivial⟩
          intro i x hi hx
          by_cases e : i = j
          · subst e
            rw [unhide HOJ] at hx
            cases hx
            exact hk'
          · exact unhide HJ i x (by omega) hx
        case measure => simp [intOf]; omega
    · have hlt' : ¬ (j : Int) < m := by omega
      have hRR : R = none := by
        have hme := unhide hm
        have hol := unhide HOL
        rw [← unhide hR]
        rw [List.findIdx?_eq_none_iff]
        intro x hx
        obtain ⟨i, hi⟩ := List.getElem?_of_mem hx
        refine unhide HJ i x ?_ hi
        rcases Nat.lt_or_ge i os.length with h | h
        · omega
        · rw [List.getElem?_eq_none h] at hi; cases hi
      subst hRR
      go_wp2_with fail
      go_ret2
      exact ⟨rfl, rfl⟩
theorem find_any (b B : Nat) (T : TypeId) (cs : List Value) (v : Value) (os : List Lk.Ow) (ps : List Nat) (k : Int) (R : Option Nat) (w : World) (hI : Is w b T cs) (h10 : cs[10]? = some v) (hO : Outs w os ps) (ho : w.ownsRow B 169 1 v ps.length (ps.map ptr)) (h4 : ps.length ≤ 1000)
    (hR : os.findIdx? (isId k) = R) :
    Calls Tryz.prog 147 #[.pointer (some ⟨b, 3, none⟩), .int .i64 k] w fun e w' => e = .returned (.tuple #[optPtr (R.bind fun i => ps[i]?), .bool R.isSome]) ∧ w' = w := by
  have c : w.cell? ⟨b, 10, none⟩ = some v := by rw [hI.cell]; exact h10
  rcases ho.2 with ⟨rfl, h0⟩ | ⟨g, cap, cur, rfl, _⟩
  · obtain rfl : ps = [] := List.eq_nil_of_length_eq_zero h0
    have hol := hO.len
    obtain rfl : os = [] := List.eq_nil_of_length_eq_zero (by simpa using hol)
    simp at hR
    subst hR
    exact find_nil b k w hI.lt c
  · exact find_some b B g ps.length cap os ps k R w hI.lt c hO ho (hide rfl) h4 hR
end Go.Proofs.YtbkpdapagfjmmaaGreatDoor

/-
  Walks: which stream sends, and how much.
-/
namespace Go.Proofs.YtbkpdapagfjmmaaGreatDoor
open Go.RowKit

def mostN (all : Nat) (o : Lk.Ow) : Nat := min (min o.left.length 16) (min o.cr all)
theorem run_min4 (P : Program) (w : World) (ts : Array TypeId) (t : TypeId) (a b c d : Int) : (Builtin.min_ ts t #[.int .i64 a, .int .i64 b, .int .i64 c, .int .i64 d]).run P w = .ok (.int .i64 (min (min (min a b) c) d)) w := by
  have e : ∀ x y : Int, (if y < x then y else x) = min x y := fun x y => by
    split <;> omega
  show (List.foldlM Builtin.min2 (.int .i64 a) [.int .i64 b, .int .i64 c, .int .i64 d] : Sem Value).run P w = _
  simp only [List.foldlM, Builtin.min2, e]
  rfl
theorem run_max2 (P : Program) (w : World) (ts : Array TypeId) (t : TypeId) (a b : Int) : (Builtin.max_ ts t #[.int .i64 a, .int .i64 b]).run P w = .ok (.int .i64 (max a b)) w := by
  have e : ∀ x y : Int, (if x < y then y else x) = max x y := fun x y => by
    split <;> omega
  show (List.foldlM Builtin.max2 (.int .i64 a) [.int .i64 b] : Sem Value).run P w = _
  simp only [List.foldlM, Builtin.max2, e]
  rfl
theorem most_any (b p all : Nat) (o : Lk.Ow) (w : World) (_hb : b < w.heap.size) (c : w.cell? ⟨b, 9, none⟩ = some (.int .i64 (all : Int))) (hI : Is w p 173 (owV o)) :
    Calls Tryz.prog 74 #[.pointer (some ⟨b, 3, none⟩), .pointer (some ⟨p, 0, none⟩)] w fun e w' => e = .returned (.int .i64 (mostN all o : Int)) ∧ ∃ n, w' = w.drewN n := by
  have c1 := hI.cell 1
  have c2 := hI.cell 2
  simp only [owV, List.getElem?_cons_zero, List.getElem?_cons_succ] at c1 c2
  have hl := hI.lt
  have hs := bs_size o.left
  clear hI
  go_enter Tryz.func74, Tryz.ntmps74
  go_wp2_with fail
  have hmin := fun (W : World) => run_min4 Tryz.prog W #[3, 3, 3, 3] 3 (o.left.length : Int) 16 (o.cr : Int) (all : Int)
  go_region
  go_wp2_with fail
  go_ret
  refine ⟨ret_int ?_, by first | exact ⟨1, rfl⟩ | exact ⟨_, rfl⟩⟩
  unfold mostN
  omega

def mayN (all : Nat) (o : Lk.Ow) : Bool := o.left.isEmpty || decide (0 < mostN all o)
theorem maySend_any (b p all : Nat) (o : Lk.Ow) (w : World) (hb : b < w.heap.size) (c : w.cell? ⟨b, 9, none⟩ = some (.int .i64 (all : Int))) (hI : Is w p 173 (owV o)) :
    Calls Tryz.prog 122 #[.pointer (some ⟨b, 3, none⟩), .pointer (some ⟨p, 0, none⟩)] w fun e w' => e = .returned (.bool (mayN all o)) ∧ ∃ n, w' = w.drewN n := by
  have HC := hide (most_any b p all o w hb c hI)
  have c2 := hI.cell 2
  simp only [owV, List.getElem?_cons_zero, List.getElem?_cons_succ] at c2
  have hl := hI.lt
  generalize hM : mayN all o = M
  have HM := hide hM
  clear hI hM
  by_cases h : o.left = []
  · rw [h] at c2
    have e : bs [] = ⟨#[]⟩ := rfl
    rw [e] at c2
    go_enter Tryz.func122, Tryz.ntmps122
    go_wp2_with fail
    go_ret
    refine ⟨ret_bool ?_, 0, rfl⟩
    rw [← unhide HM]
    simp [mayN, h]
  · have hne : ((bs o.left).toList == (⟨#[]⟩ : ByteArray).toList) = false := by
      rw [beq_eq_false_iff_ne]
      intro e
      rw [ByteArray.toList_eq, ByteArray.toList_eq] at e
      simp [bs] at e
      exact h e
    have hne2 : (bs o.left).toList.isEmpty = false := by
      rw [ByteArray.toList_eq]
      cases hx : o.left with
      | nil => exact absurd hx h
      | cons a t => simp [bs]
    have hpos : o.left.isEmpty = false := by
      cases hx : o.left with
      | nil => exact absurd hx h
      | cons a t => rfl
    go_enter Tryz.func122, Tryz.ntmps122
    go_wp2_with fail
    refine (unhide HC).mono ?_
    rintro e w1 ⟨rfl, n, rfl⟩
    go_wp2_with fail
    go_ret
    refine ⟨ret_bool ?_, n, rfl⟩
    rw [← unhide HM]
    simp [mayN, hpos]
end Go.Proofs.YtbkpdapagfjmmaaGreatDoor

/-
  Walks: the stream whose turn it is.
-/
namespace Go.Proofs.YtbkpdapagfjmmaaGreatDoor
open Go.RowKit

theorem nextToSend_nil (b : Nat) (w : World) (_hb : b < w.heap.size) (c : w.cell? ⟨b, 10, none⟩ = some (.slice none 0 0)) : Calls Tryz.prog 73 #[.pointer (some ⟨b, 3, none⟩)] w fun e w' => e = .returned (.tuple #[.pointer none, .bool false]) ∧ w' = w := by
  go_enter Tryz.func73, Tryz.ntmps73
  go_wp2_with fail
  refine wp_loop_rounds 1 ?_
  rw [rounds_succ]
  go_wp2_with fail
  go_ret2
  exact ⟨rfl, rfl⟩

def aboveN (all turn : Nat) (o : Lk.Ow) : Bool := mayN all o && decide (turn < o.id)
def nextN (all turn : Nat) (os : List Lk.Ow) : Option Nat := match os.findIdx? (aboveN all turn) with
  | some i => some i
  | none => os.findIdx? (mayN all)

theorem findIdx_take_snoc {α : Type} (f : α → Bool) (l : List α) (j : Nat) (x : α) (hx : l[j]? = some x) : (l.take (j + 1)).findIdx? f = match (l.take j).findIdx? f with
    | some i => some i
    | none => if f x then some j else none := by
  have e : l.take (j + 1) = l.take j ++ [x] := by rw [List.take_add_one, hx]; rfl
  have hj : (l.take j).length = j := by
    rw [List.length_take]
    rcases Nat.lt_or_ge j l.length with h | h
    · omega
    · rw [List.getElem?_eq_none h] at hx; cases hx
  rw [e, List.findIdx?_append]
  cases (l.take j).findIdx? f with
  | some i => rfl
  | none =>
    simp only [Option.none_or]
    rw [List.findIdx?_cons]
    split
    · rename_i h; simp [hj]
    · rename_i h; simp

set_option maxHeartbeats 2000000 in
set_option maxRecDepth 100000 in
theorem nextToSend_some (b B g m cap all turn : Nat) (os : List Lk.Ow) (ps : List Nat) (R : Option Nat) (w : World) (hb : b < w.heap.size) (c : w.cell? ⟨b, 10, none⟩ = some (.slice (some ⟨g, 0, none⟩) m cap)) (c9 : w.cell? ⟨b, 9, none⟩ = some (.int .i64 (all : Int))) (c8 : w.cell? ⟨b, 8, none⟩ = some (.int .i64 (turn : Int))) (hO : Outs w os ps) (ho : w.ownsRow B 169 1 (.slice (some ⟨g, 0, none⟩) m cap) ps.length (ps.map ptr)) (hm : Hid (m = ps.length)) (h4 : m ≤ 1000)
    (hR : Hid (nextN all turn os = R)) :
    Calls Tryz.prog 73 #[.pointer (some ⟨b, 3, none⟩)] w fun e w' => e = .returned (.tuple #[optPtr (R.bind fun i => ps[i]?), .bool R.isSome]) ∧ ∃ n, w' = w.drewN n := by
  have hol := hO.len
  have HOL := hide hol
  have HO := hide hO
  have HW := hide ho
  clear hO ho hol
  go_enter Tryz.func73, Tryz.ntmps73
  go_wp2_with fail
  go_loopw [4, 12] (fun q u wr => ∃ j : Nat, u = .int .i64 j ∧ j ≤ m ∧ Hid (q = optPtr (((os.take j).findIdx? (mayN all)).bind fun i => ps[i]?)) ∧ Hid (∀ i o, i < j → os[i]? = some o → aboveN all turn o = false) ∧ ∃ n, wr = w.drewN n) (fun _ u _ => m - (intOf u).toNat)
  case atStart => exact ⟨0, rfl, by omega, rfl, fun i o hi => by omega, 0, rfl⟩
  case round =>
    obtain ⟨j, rfl, hj, HQ, HJ, n, rfl⟩ := hrel
    by_cases hlt : j < m
    · have hme := unhide hm
      have hol := unhide HOL
      obtain ⟨o, p, ho, hp, hI⟩ := (unhide HO).get (i := j) (by omega)
      obtain ⟨hg, cp⟩ := row_ptr (unhide HW) hp
      have hlt' : (j : Int) < m := by omega
      have c0 := hI.cell 0
      simp only [owV, List.getElem?_cons_zero] at c0
      have hpl := hI.lt
      have HC := hide (fun n => maySend_any b p all o (w.drewN n) hb c9 (hI.drewN n))
      have HOJ := hide ho
      have HP := hide hp
      have hjo : j < os.length := by omega
      have HSN := hide (findIdx_take_snoc (mayN all) os j o ho)
      clear hI ho hp hme hol
      cases hmay : mayN all o with
      | false =>
        rw [hmay] at HC
        go_wp2_with fail
        refine (unhide HC n).mono ?_
        rintro e w1 ⟨rfl, n1, rfl⟩
        go_wp2_with fail
        go_roundw
        case rel =>
          refine ⟨j + 1, by simp, by omega, ?_, ?_, n + n1, by first | rfl | simp⟩
          · have e := unhide HSN
            rw [hmay] at e
            rw [Hid, e, unhide HQ]
            cases (os.take j).findIdx? (mayN all) <;> rfl
          · intro i x hi hx
            by_cases e : i = j
            · subst e
              rw [unhide HOJ] at hx
              cases hx
              simp [aboveN, hmay]
            · exact unhide HJ i x (by omega) hx
        case measure => simp [intOf]; omega
      | true =>
        rw [hmay] at HC
        by_cases htn : turn < o.id
        · have htn' : (turn : Int) < (o.id : Int) := by omega
          have hRR : R = some j := by
            rw [← unhide hR]
            unfold nextN
            have : os.findIdx? (aboveN all turn) = some j := by
              rw [List.findIdx?_eq_some_iff_getElem]
              refine ⟨hjo, ?_, ?_⟩
              · have := unhide HOJ
                rw [List.getElem?_eq_getElem hjo] at this
                cases this
                simp [aboveN, hmay, htn]
              · intro i hi
                have := unhide HJ i os[i] hi (List.getElem?_eq_getElem (by omega))
                simp [this]
            rw [this]
          subst hRR
          go_wp2_with fail
          refine (unhide HC n).mono ?_
          rintro e w1 ⟨rfl, n1, rfl⟩
          go_wp2_with fail
          go_quiet (fail)
          go_wp2_with fail
          go_ret2
          refine ⟨?_, by first | exact ⟨_, rfl⟩ | exact ⟨_, by simp; rfl⟩⟩
          have := unhide HP
          simp [this, optPtr, ptr]
        · have htn' : ¬ (turn : Int) < (o.id : Int) := by omega
          have hab : aboveN all turn o = false := by simp [aboveN, htn]
          have hrel2 : Hid (∀ i x, i < j + 1 → os[i]? = some x → aboveN all turn x = false) := by
            intro i x hi hx
            by_cases e : i = j
            · subst e
              rw [unhide HOJ] at hx
              cases hx
              exact hab
            · exact unhide HJ i x (by omega) hx
          cases hlow : (os.take j).findIdx? (mayN all) with
          | none =>
            have e := unhide HSN
            rw [hlow, hmay] at e
            simp only [if_true] at e
            have hq := unhide HQ
            rw [hlow] at hq
            simp only [Option.bind_none, optPtr] at hq
            subst hq
            have HE := hide e
            clear e
            go_wp2_with fail
            refine (unhide HC n).mono ?_
            rintro e w1 ⟨rfl, n1, rfl⟩
            go_wp2_with fail
            go_quiet (fail)
            go_wp2_with fail
            go_roundw
            case rel =>
              refine ⟨j + 1, by simp, by omega, ?_, hrel2, by first | exact ⟨_, rfl⟩ | exact ⟨_, by simp; rfl⟩⟩
              rw [Hid, unhide HE]
              have := unhide HP
              simp [this, optPtr, ptr]
            case measure => simp [intOf]; omega
          | some i0 =>
            have e := unhide HSN
            rw [hlow] at e
            simp only at e
            have hq := unhide HQ
            rw [hlow] at hq
            obtain ⟨q0, hq0⟩ : ∃ q0, ps[i0]? = some q0 := by
              have h1 := (List.findIdx?_eq_some_iff_getElem.1 hlow).1
              rw [List.length_take] at h1
              have hme := unhide hm
              exact ⟨_, List.getElem?_eq_getElem (by omega)⟩
            simp only [Option.bind_some, hq0, optPtr, ptr] at hq
            subst hq
            have HE := hide e
            have HQ0 := hide hq0
            clear e hq0
            go_wp2_with fail
            refine (unhide HC n).mono ?_
            rintro e w1 ⟨rfl, n1, rfl⟩
            go_wp2_with fail
            go_quiet (fail)
            go_wp2_with fail
            go_roundw
            case rel =>
              refine ⟨j + 1, by simp, by omega, ?_, hrel2, by first | exact ⟨_, rfl⟩ | exact ⟨_, by simp; rfl⟩⟩
              rw [Hid, unhide HE]
              have := unhide HQ0
              simp [this, optPtr, ptr]
            case measure => simp [intOf]; omega
    · have hlt' : ¬ (j : Int) < m := by omega
      have hab : os.findIdx? (aboveN all turn) = none := by
        have hme := unhide hm
        have hol := unhide HOL
        rw [List.findIdx?_eq_none_iff]
        intro x hx
        obtain ⟨i, hi⟩ := List.getElem?_of_mem hx
        refine unhide HJ i x ?_ hi
        rcases Nat.lt_or_ge i os.length with h | h
        · omega
        · rw [List.getElem?_eq_none h] at hi; cases hi
      have hRR : R = os.findIdx? (mayN all) := by
        rw [← unhide hR]
        unfold nextN
        rw [hab]
      have hq := unhide HQ
      rw [List.take_of_length_le (by have hme := unhide hm; have hol := unhide HOL; omega), ← hRR] at hq
      clear hab hRR
      cases R with
      | none =>
        simp only [Option.bind_none, optPtr] at hq
        subst hq
        go_wp2_with fail
        go_ret2
        exact ⟨rfl, n, rfl⟩
      | some i0 =>
        obtain ⟨q0, hq0⟩ : ∃ q0, ps[i0]? = some q0 := by
          have h1 : os.findIdx? (mayN all) = some i0 ∨ os.findIdx? (aboveN all turn) = some i0 := by
            have := unhide hR
            unfold nextN at this
            cases hx : os.findIdx? (aboveN all turn) with
            | some i => rw [hx] at this; exact .inr this
            | none => rw [hx] at this; exact .inl this
          have hl : i0 < os.length := by
            rcases h1 with h | h <;> exact (List.findIdx?_eq_some_iff_getElem.1 h).1
          have hol := unhide HOL
          exact ⟨_, List.getElem?_eq_getElem (by omega)⟩
        simp only [Option.bind_some, hq0, optPtr, ptr] at hq
        subst hq
        have HQ0 := hide hq0
        clear hq0
        go_wp2_with fail
        go_ret2
        refine ⟨?_, n, rfl⟩
        have := unhide HQ0
        simp [this, optPtr, ptr]
end Go.Proofs.YtbkpdapagfjmmaaGreatDoor
