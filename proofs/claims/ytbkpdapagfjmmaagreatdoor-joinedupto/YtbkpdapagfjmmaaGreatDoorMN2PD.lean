import Derived.Test.YtbkpdapagfjmmaaGreatDoorMN1Spec4
import Derived.Test.YtbkpdapagfjmmaaGreatDoorMT1M1
import Derived.Test.YtbkpdapagfjmmaaGreatDoorSpec7
import Derived.BigQuiet
import Derived.Laws.IdiomCopy
/-
  Memory: the chain of frames that wait.
-/
namespace Go.Proofs.YtbkpdapagfjmmaaGreatDoor
open Go.RowKit

def wtV (f : Lk.Fr) (nx : Value) : List Value := [.int .i64 (f.k : Int), .int .i64 (f.st : Int), .string (bs f.d), nx]
/-- A chain: its frames, its blocks. -/
def Links (w : World) : Value → List Lk.Fr → List Nat → Prop
  | v, [], [] => v = .pointer none
  | v, f :: fs, r :: rs => v = ptr r ∧ ∃ nx, Is w r 167 (wtV f nx) ∧ Links w nx fs rs
  | _, _, _ => False
def lastV (rs : List Nat) : Value := optPtr rs.getLast?
def firstV (rs : List Nat) : Value := optPtr rs.head?
structure Chain (w : World) (first last : Value) (fs : List Lk.Fr) (rs : List Nat) : Prop where
  links : Links w first fs rs
  last : last = lastV rs
  nodup : rs.Nodup

theorem Links.len : ∀ {w : World} {v : Value} {fs : List Lk.Fr} {rs : List Nat}, Links w v fs rs → fs.length = rs.length ∧ v = firstV rs
  | w, v, [], [], h => ⟨rfl, h⟩
  | w, v, f :: fs, r :: rs, h => by
    obtain ⟨rfl, nx, _, h⟩ := h
    have := (Links.len h).1
    exact ⟨by simp [this], rfl⟩
  | _, _, [], _ :: _, h => h.elim
  | _, _, _ :: _, [], h => h.elim
theorem Links.is : ∀ {w : World} {v : Value} {fs : List Lk.Fr} {rs : List Nat}, Links w v fs rs → ∀ r ∈ rs, ∃ f nx, Is w r 167 (wtV f nx)
  | w, v, [], [], h => by simp
  | w, v, f :: fs, r :: rs, h => by
    obtain ⟨rfl, nx, hI, h⟩ := h
    intro x hx
    rcases List.mem_cons.1 hx with rfl | hx
    · exact ⟨f, nx, hI⟩
    · exact Links.is h x hx
  | _, _, [], _ :: _, h => h.elim
  | _, _, _ :: _, [], h => h.elim
theorem Links.only {S : Nat → Prop} {w' : World} : ∀ {w : World} {v : Value} {fs : List Lk.Fr} {rs : List Nat}, Links w v fs rs → Only S w w' → (∀ r ∈ rs, ¬ S r) → Links w' v fs rs
  | w, v, [], [], h, _, _ => h
  | w, v, f :: fs, r :: rs, h, k, hn => by
    obtain ⟨rfl, nx, hI, h⟩ := h
    exact ⟨rfl, nx, hI.only k (hn r (by simp)), Links.only h k (fun x hx => hn x (by simp [hx]))⟩
  | _, _, [], _ :: _, h, _, _ => h.elim
  | _, _, _ :: _, [], h, _, _ => h.elim
/-- A new one behind the last. -/
theorem Links.snoc {n : Nat} {g : Lk.Fr} : ∀ {w : World} {v : Value} {fs : List Lk.Fr} {rs : List Nat} {r : Nat}, Links w v fs rs → rs.getLast? = some r → rs.Nodup → n ∉ rs → Is w n 167 (wtV g (.pointer none)) →
    Links (w.setCell ⟨r, 3, none⟩ (ptr n)) v (fs ++ [g]) (rs ++ [n])
  | w, v, [], [], r, h, hl, _, _, _ => by simp at hl
  | w, v, f :: fs, [r'], r, h, hl, hd, hn, hI => by
    obtain ⟨rfl, nx, hI0, h⟩ := h
    simp at hl
    subst hl
    cases fs with
    | cons a b => exact h.elim
    | nil =>
      simp at hn
      exact ⟨rfl, ptr n, hI0.set 3 (ptr n), rfl, .pointer none, hI.other _ _ hn, rfl⟩
  | w, v, f :: fs, r' :: r2 :: rs, r, h, hl, hd, hn, hI => by
    obtain ⟨rfl, nx, hI0, h⟩ := h
    have hl2 : (r2 :: rs).getLast? = some r := by simpa using hl
    have hmem : r ∈ r2 :: rs := List.mem_of_getLast? hl2
    have hne : r' ≠ r := by
      rintro rfl
      exact (List.nodup_cons.1 hd).1 hmem
    exact ⟨rfl, nx, hI0.other _ _ hne, Links.snoc h hl2 (List.nodup_cons.1 hd).2 (fun hx => hn (by simp [hx])) hI⟩
  | _, _, [], _ :: _, _, h, _, _, _, _ => h.elim
  | _, _, _ :: _, [], _, h, _, _, _, _ => h.elim

theorem Chain.nil (w : World) : Chain w (.pointer none) (.pointer none) [] [] := ⟨rfl, rfl, by simp⟩
theorem Chain.lt {w : World} {a z : Value} {fs : List Lk.Fr} {rs : List Nat} (h : Chain w a z fs rs) : ∀ r ∈ rs, r < w.heap.size := fun r hr => let ⟨_, _, hI⟩ := h.links.is r hr; hI.lt
theorem Chain.only {S : Nat → Prop} {w w' : World} {a z : Value} {fs : List Lk.Fr} {rs : List Nat} (h : Chain w a z fs rs) (k : Only S w w') (hn : ∀ r ∈ rs, ¬ S r) : Chain w' a z fs rs := ⟨h.links.only k hn, h.last, h.nodup⟩
theorem Chain.empty {w : World} {a z : Value} {fs : List Lk.Fr} {rs : List Nat} (h : Chain w a z fs rs) : (fs = [] ∧ rs = [] ∧ a = .pointer none ∧ z = .pointer none) ∨ ∃ f fs' r rs', fs = f :: fs' ∧ rs = r :: rs' ∧ a = ptr r ∧ Is w r 167 (wtV f (firstV rs')) ∧ Chain w (firstV rs') (lastV rs') fs' rs' := by
  obtain ⟨hL, hz, hd⟩ := h
  cases fs with
  | nil =>
    cases rs with
    | nil => exact .inl ⟨rfl, rfl, hL, hz⟩
    | cons r rs => exact hL.elim
  | cons f fs =>
    cases rs with
    | nil => exact hL.elim
    | cons r rs =>
      obtain ⟨rfl, nx, hI, hL⟩ := hL
      have e := hL.len.2
      subst e
      exact .inr ⟨f, fs, r, rs, rfl, rfl, rfl, hI, hL, rfl, (List.nodup_cons.1 hd).2⟩
theorem lastV_cons {r : Nat} {rs : List Nat} (h : rs ≠ []) : lastV (r :: rs) = lastV rs := by
  cases rs with
  | nil => exact absurd rfl h
  | cons a b => simp [lastV]
theorem Chain.put_first {w : World} {n : Nat} {g : Lk.Fr} (hI : Is w n 167 (wtV g (.pointer none))) : Chain w (ptr n) (ptr n) [g] [n] := ⟨⟨rfl, _, hI, rfl⟩, rfl, by simp⟩
theorem Chain.put_more {w : World} {a z : Value} {fs : List Lk.Fr} {rs : List Nat} {n r : Nat} {g : Lk.Fr} (h : Chain w a z fs rs) (hr : rs.getLast? = some r) (hn : n ∉ rs) (hI : Is w n 167 (wtV g (.pointer none))) :
    Chain (w.setCell ⟨r, 3, none⟩ (ptr n)) a (ptr n) (fs ++ [g]) (rs ++ [n]) :=
  ⟨h.links.snoc hr h.nodup hn hI, by simp [lastV, optPtr], List.nodup_append.2 ⟨h.nodup, by simp, fun x hx y hy => by simp at hy; subst hy; rintro rfl; exact hn hx⟩⟩
end Go.Proofs.YtbkpdapagfjmmaaGreatDoor

/-
  Walks: streams of its own: found, dropped.
-/
namespace Go.Proofs.YtbkpdapagfjmmaaGreatDoor
open Go.RowKit

def owV (o : Lk.Ow) : List Value := [.int .i64 (o.id : Int), .int .i64 (o.cr : Int), .string (bs o.left)]
/-- Streams of its own, and their blocks. -/
structure Outs (w : World) (os : List Lk.Ow) (ps : List Nat) : Prop where
  len : os.length = ps.length
  is : ∀ (i : Nat) (o : Lk.Ow) (p : Nat), os[i]? = some o → ps[i]? = some p → Is w p 173 (owV o)
def dropV (sb : Nat) : Value := .func (.func 124) #[] #[.pointer (some ⟨sb, 0, none⟩)]
theorem Outs.only {S : Nat → Prop} {w w' : World} {os : List Lk.Ow} {ps : List Nat} (h : Outs w os ps) (k : Only S w w') (hn : ∀ p ∈ ps, ¬ S p) : Outs w' os ps :=
  ⟨h.len, fun i o p ho hp => (h.is i o p ho hp).only k (hn p (List.mem_of_getElem? hp))⟩
theorem Outs.get {w : World} {os : List Lk.Ow} {ps : List Nat} (h : Outs w os ps) {i : Nat} (hi : i < os.length) : ∃ o p, os[i]? = some o ∧ ps[i]? = some p ∧ Is w p 173 (owV o) := by
  have hp : i < ps.length := by rw [← h.len]; exact hi
  exact ⟨os[i], ps[i], List.getElem?_eq_getElem hi, List.getElem?_eq_getElem hp, h.is i _ _ (List.getElem?_eq_getElem hi) (List.getElem?_eq_getElem hp)⟩
theorem Outs.mem {w : World} {os : List Lk.Ow} {ps : List Nat} (h : Outs w os ps) {p : Nat} (hp : p ∈ ps) : ∃ o, Is w p 173 (owV o) := by
  obtain ⟨i, hi⟩ := List.getElem?_of_mem hp
  obtain ⟨o, p', _, hp', hI⟩ := h.get (i := i) (by
    rw [h.len]
    rcases Nat.lt_or_ge i ps.length with h | h
    · exact h
    · rw [List.getElem?_eq_none h] at hi; cases hi)
  rw [hi] at hp'
  cases hp'
  exact ⟨o, hI⟩
theorem row_ptr {w : World} {B g m cap i p : Nat} {T : TypeId} {ps : List Nat} (h : w.ownsRow B T 1 (.slice (some ⟨g, 0, none⟩) m cap) ps.length (ps.map ptr)) (hp : ps[i]? = some p) : g < w.heap.size ∧ w.cell? ⟨g, i, none⟩ = some (.pointer (some ⟨p, 0, none⟩)) := by
  have hi : i < ps.length := by
    rcases Nat.lt_or_ge i ps.length with h | h
    · exact h
    · rw [List.getElem?_eq_none h] at hp; cases hp
  rcases h.2 with ⟨h0, _⟩ | ⟨g', cap', cur, h0, _, hg, _, _, _, ht⟩
  · cases h0
  · cases h0
    have hI : Is w g T cur.toList := by unfold Is; simpa using hg
    refine ⟨hI.lt, ?_⟩
    rw [hI.cell i]
    have : (cur.toList.take (ps.length * 1))[i]? = some (ptr p) := by rw [ht]; simp [hp]
    rw [List.getElem?_take_of_lt (by omega)] at this
    exact this

theorem drop1_any (p sb : Nat) (o : Lk.Ow) (k : Int) (w : World) (hI : Is w p 173 (owV o)) (_hs : sb < w.heap.size) (c : w.cell? ⟨sb, 0, none⟩ = some (.int .i64 k)) :
    Calls Tryz.prog 124 #[.pointer (some ⟨p, 0, none⟩), .pointer (some ⟨sb, 0, none⟩)] w fun e w' => e = .returned (.bool ((o.id : Int) == k)) ∧ ∃ n, w' = w.drewN n := by
  have c0 := hI.cell 0
  simp only [owV, List.getElem?_cons_zero] at c0
  have hl := hI.lt
  clear hI
  go_enter Tryz.func124, Tryz.ntmps124
  go_wp2_with fail
  go_quiet (fail)
  go_wp2_with fail
  go_ret
  exact ⟨rfl, _, rfl⟩

def idxV (r : Option Nat) : Int := match r with
  | some i => (i : Int)
  | none => -1
def isId (k : Int) (o : Lk.Ow) : Bool := (o.id : Int) == k

set_option maxHeartbeats 1000000 in
set_option maxRecDepth 100000 in
theorem indexFunc_any (g m cap sb B : Nat) (os : List Lk.Ow) (ps : List Nat) (k : Int) (R : Option Nat) (w : World) (hO : Outs w os ps) (ho : w.ownsRow B 169 1 (.slice (some ⟨g, 0, none⟩) m cap) ps.length (ps.map ptr)) (hm : Hid (m = ps.length)) (h4 : ps.length ≤ 1000) (hs : sb < w.heap.size) (c : w.cell? ⟨sb, 0, none⟩ = some (.int .i64 k))
    (hR : Hid (os.findIdx? (isId k) = R)) :
    Calls Tryz.prog 166 #[.slice (some ⟨g, 0, none⟩) m cap, dropV sb] w fun e w' => e = .returned (.int .i64 (idxV R)) ∧ ∃ n, w' = w.drewN n := by
  have hol := hO.len
  have HO := hide hO
  have HW := hide ho
  clear hO ho
  unfold dropV
  go_enter Tryz.func166, Tryz.ntmps166
  go_wp2_with fail
  go_loopw [8] (fun u wr => ∃ j : Nat, u = .int .i64 j ∧ j ≤ m ∧ Hid (∀ i o, i < j → os[i]? = some o → isId k o = false) ∧ ∃ n, wr = w.drewN n) (fun u _ => m - (intOf u).toNat)
  case atStart => exact ⟨0, rfl, by omega, fun i o hi => by omega, 0, rfl⟩
  case round =>
    obtain ⟨j, rfl, hj, HJ, n, rfl⟩ := hrel
    by_cases hlt : j < m
    · have hme := unhide hm
      obtain ⟨o, p, ho, hp, hI⟩ := (unhide HO).get (i := j) (by omega)
      obtain ⟨hg, cp⟩ := row_ptr (unhide HW) hp
      have hlt' : (j : Int) < m := by omega
      have HC := hide (fun n => drop1_any p sb o k (w.drewN n) (hI.drewN n) hs c)
      have HOJ := hide ho
      have hjo : j < os.length := by omega
      clear hI ho hp hme
      by_cases hk : (o.id : Int) == k
      · have hRR : R = some j := by
          rw [← unhide hR]
          rw [List.findIdx?_eq_some_iff_getElem]
          refine ⟨hjo, ?_, ?_⟩
          · have := unhide HOJ
            rw [List.getElem?_eq_getElem hjo] at this
            cases this
            exact hk
          · intro i hi
            have := unhide HJ i os[i] hi (List.getElem?_eq_getElem (by omega))
            simp [this]
        subst hRR
        go_wp2_with fail
        refine (unhide HC n).mono ?_
        rintro e w1 ⟨rfl, n1, rfl⟩
        rw [hk]
        go_wp2_with fail
        go_ret
        exact ⟨rfl, n + n1, by first | rfl | simp⟩
      · have hk' : ((o.id : Int) == k) = false := by simpa using hk
        go_wp2_with fail
        refine (unhide HC n).mono ?_
        rintro e w1 ⟨rfl, n1, rfl⟩
        rw [hk']
        go_wp2_with fail
        go_roundw
        case rel =>
          refine ⟨j + 1, by simp, by omega, ?_, n + n1, by first | rfl | simp⟩
          intro i x hi hx
          by_cases e : i = j
          · subst e
            rw [unhide HOJ] at hx
            cases hx
            exact hk'
          · exact unhide HJ i x (by omega) hx
        case measure => simp [intOf]; omega
    · have hlt' : ¬ (j : Int) < m := by omega
      have hRR : R = none := by
        have hme := unhide hm
        rw [← unhide hR]
        rw [List.findIdx?_eq_none_iff]
        intro x hx
        obtain ⟨i, hi⟩ := List.getElem?_of_mem hx
        refine unhide HJ i x ?_ hi
        rcases Nat.lt_or_ge i os.length with h | h
        · omega
        · rw [List.getElem?_eq_none h] at hi; cases hi
      subst hRR
      go_wp2_with fail
      go_ret
      exact ⟨rfl, n, rfl⟩
end Go.Proofs.YtbkpdapagfjmmaaGreatDoor

/-
  Walks: a stream of its own is dropped.
-/
namespace Go.Proofs.YtbkpdapagfjmmaaGreatDoor
open Go.RowKit

theorem info_op : (Tryz.prog.info? 169).map (fun i => (i.zero, i.size, i.bytes)) = some (some (.pointer none), 1, 8) := by kernel_rfl
theorem clear_ptr (g m cap : Nat) (W : World) (hc : (W.cell? ⟨g, m, none⟩).isSome = true) (hf : W.frozen? ⟨g, m, none⟩ = false) :
    (Builtin.clear_ #[91] 0 #[.slice (some ⟨g, m, none⟩) 1 cap]).run Tryz.prog W = .ok (.tuple #[]) (W.setCell ⟨g, m, none⟩ (.pointer none)) := by
  obtain ⟨i, hi, hz0, hz1, hz2⟩ := info_parts info_op
  have hst := run_storeCells_cells (P := Tryz.prog) g m [.pointer none] 0 W (by simpa using hc) (by simpa using hf) (by simp [Value.oneCell'])
  simp only [Nat.add_zero, World.setCells] at hst
  simp [Builtin.clear_, run_underlying Tryz.underlying91, zeroValue, typeInfo, hi, hz0, Builtin.zeroCells, Value.cells, List.range_succ, hst]

/-- The row while a stream is taken out. -/
def shiftR (ps : List Nat) (i a : Nat) : List Nat := (ps.eraseIdx i).take a ++ ps.drop a
theorem shiftR_start (ps : List Nat) (i : Nat) (hi : i < ps.length) : shiftR ps i i = ps := by
  unfold shiftR
  rw [List.eraseIdx_eq_take_drop_succ, List.take_append_of_le_length (by simp; omega), List.take_take, Nat.min_self, List.take_append_drop]
theorem shiftR_len (ps : List Nat) (i a : Nat) (hi : i < ps.length) (ha : a < ps.length) : (shiftR ps i a).length = ps.length := by
  unfold shiftR
  rw [List.length_append, List.length_take, List.length_drop, List.length_eraseIdx_of_lt hi]
  omega
theorem shiftR_at (ps : List Nat) (i a j : Nat) (hi : i < ps.length) (ha : a < ps.length) (hj : a ≤ j) : (shiftR ps i a)[j]? = ps[j]? := by
  unfold shiftR
  have hl : ((ps.eraseIdx i).take a).length = a := by rw [List.length_take, List.length_eraseIdx_of_lt hi]; omega
  rw [List.getElem?_append_right (by omega), hl, List.getElem?_drop]
  congr 1
  omega
theorem shiftR_step (ps : List Nat) (i a p : Nat) (hi : i ≤ a) (ha : a + 1 < ps.length) (hp : ps[a + 1]? = some p) : (shiftR ps i a).set a p = shiftR ps i (a + 1) := by
  have hil : i < ps.length := by omega
  apply List.ext_getElem?
  intro j
  have hl : ((ps.eraseIdx i).take a).length = a := by rw [List.length_take, List.length_eraseIdx_of_lt hil]; omega
  have hl1 : ((ps.eraseIdx i).take (a + 1)).length = a + 1 := by rw [List.length_take, List.length_eraseIdx_of_lt hil]; omega
  have hls := shiftR_len ps i a hil (by omega)
  rw [List.getElem?_set]
  by_cases e : a = j
  · subst e
    rw [if_pos rfl, if_pos (by omega)]
    unfold shiftR
    rw [List.getElem?_append_left (by omega), List.getElem?_take_of_lt (by omega), List.getElem?_eraseIdx, if_neg (by omega), hp]
  · rw [if_neg e]
    unfold shiftR
    by_cases h : j < a
    · rw [List.getElem?_append_left (by omega), List.getElem?_append_left (by omega), List.getElem?_take_of_lt h, List.getElem?_take_of_lt (by omega)]
    · rw [List.getElem?_append_right (by omega), List.getElem?_append_right (by omega), hl, hl1, List.getElem?_drop, List.getElem?_drop]
      congr 1
      omega
theorem shiftR_end (ps : List Nat) (i a : Nat) (hi : i < ps.length) (ha : a + 1 = ps.length) : (shiftR ps i a).take a = ps.eraseIdx i := by
  unfold shiftR
  have hl := List.length_eraseIdx_of_lt hi
  rw [List.take_append_of_le_length (by rw [List.length_take]; omega), List.take_take, Nat.min_self, List.take_of_length_le (by omega)]

set_option maxHeartbeats 1000000 in
set_option maxRecDepth 100000 in
theorem deleteFunc_none (g m cap sb B : Nat) (os : List Lk.Ow) (ps : List Nat) (k : Int) (w : World) (hO : Outs w os ps) (ho : w.ownsRow B 169 1 (.slice (some ⟨g, 0, none⟩) m cap) ps.length (ps.map ptr)) (hm : Hid (m = ps.length)) (h4 : ps.length ≤ 1000) (hs : sb < w.heap.size) (c : w.cell? ⟨sb, 0, none⟩ = some (.int .i64 k))
    (hR : Hid (os.findIdx? (isId k) = none)) :
    Calls Tryz.prog 123 #[.slice (some ⟨g, 0, none⟩) m cap, dropV sb] w fun e w' => e = .returned (.slice (some ⟨g, 0, none⟩) m cap) ∧ ∃ n, w' = w.drewN n := by
  have HC := hide (indexFunc_any g m cap sb B os ps k none w hO ho hm h4 hs c hR)
  clear hO ho
  unfold dropV at *
  go_enter Tryz.func123, Tryz.ntmps123
  go_wp2_with fail
  refine (unhide HC).mono ?_
  rintro e w1 ⟨rfl, n, rfl⟩
  simp only [idxV]
  go_wp2_with fail
  go_ret
  exact ⟨rfl, n, rfl⟩

set_option maxHeartbeats 2000000 in
set_option maxRecDepth 100000 in
theorem deleteFunc_some (g m cap sb B i : Nat) (os : List Lk.Ow) (ps : List Nat) (k : Int) (w : World) (hO : Outs w os ps) (ho : w.ownsRow B 169 1 (.slice (some ⟨g, 0, none⟩) m cap) ps.length (ps.map ptr)) (hm : Hid (m = ps.length)) (h4 : ps.length ≤ 1000) (hs : sb < w.heap.size) (c : w.cell? ⟨sb, 0, none⟩ = some (.int .i64 k)) (hsg : sb ≠ g)
    (hR : Hid (os.findIdx? (isId k) = some i)) (hu : Hid (∀ j o, os[j]? = some o → isId k o = true → j = i)) :
    Calls Tryz.prog 123 #[.slice (some ⟨g, 0, none⟩) m cap, dropV sb] w fun e w' =>
      e = .returned (.slice (some ⟨g, 0, none⟩) (m - 1) cap) ∧ w'.ownsRow B 169 1 (.slice (some ⟨g, 0, none⟩) (m - 1) cap) (ps.eraseIdx i).length ((ps.eraseIdx i).map ptr) ∧ Only (· = g) w w' := by
  have HC := hide (indexFunc_any g m cap sb B os ps k (some i) w hO ho hm h4 hs c hR)
  have hil : i < ps.length := by
    rw [← hO.len]
    exact (List.findIdx?_eq_some_iff_getElem.1 (unhide hR)).1
  obtain ⟨cur, hBg, hgI, hcap, hcm, hcs, ht⟩ : ∃ cur : Array Value, B ≤ g ∧ Is w g 169 cur.toList ∧ ps.length ≤ cap ∧ cap ≤ maxLen ∧ cur.size = cap * 1 ∧ cur.toList.take (ps.length * 1) = ps.map ptr := by
    rcases ho.2 with ⟨h, _⟩ | ⟨_, _, cur, h, h1, h2, h3, h4, h5, h6⟩
    · cases h
    · cases h; exact ⟨cur, h1, by unfold Is; simpa using h2, h3, h4, h5, h6⟩
  generalize htl : cur.toList.drop ps.length = tl
  have hcur : cur.toList = ps.map ptr ++ tl := by rw [← htl, ← ht, Nat.mul_one, List.take_append_drop]
  have htll : tl.length = cap - ps.length := by rw [← htl, List.length_drop, Array.length_toList]; omega
  rw [hcur] at hgI
  have hgl := hgI.lt
  have HI := hide hgI
  have HO := hide hO
  have HME := hide (unhide hm)
  have HIL := hide hil
  clear ho hO hgI htl hcur ht hcs
  have hmn : i + 1 ≤ m := by have := unhide hm; omega
  have hm4 : m ≤ 1000 := by have := unhide hm; omega
  have hmc : m ≤ cap := by have := unhide hm; omega
  clear hil h4 hcap
  unfold dropV at *
  go_enter Tryz.func123, Tryz.ntmps123
  go_wp2_with fail
  refine (unhide HC).mono ?_
  rintro e w1 ⟨rfl, n, rfl⟩
  simp only [idxV]
  have hi0 : ((i : Int) == -1) = false := by rw [beq_eq_false_iff_ne]; omega
  go_wp2_with fail
  go_loopw [5, 6] (fun u v wr => ∃ a : Nat, u = .int .i64 a ∧ v = .int .i64 ((a : Int) + 1) ∧ i ≤ a ∧ a + 1 ≤ m ∧ Is wr g 169 ((shiftR ps i a).map ptr ++ tl) ∧ Only (· = g) w wr) (fun u _ _ => m - (intOf u).toNat)
  case atStart => exact ⟨i, rfl, rfl, by omega, by omega, by rw [shiftR_start ps i (unhide HIL)]; exact (unhide HI).drewN n, (Only.refl _ _).drewN n⟩
  case round =>
    obtain ⟨a, rfl, rfl, hia, ham, hIr, hOr⟩ := hrel
    by_cases hlt : a + 1 < m
    · have hme := unhide HME
      have hil := unhide HIL
      obtain ⟨o, p, ho, hp, hI⟩ := (unhide HO).get (i := a + 1) (by rw [(unhide HO).len]; omega)
      have hpg : p ≠ g := fun e => by subst e; exact hI.ne (unhide HI) (Nat.ne_of_beq_eq_false rfl) rfl
      have hIp := hI.only hOr hpg
      have hl := shiftR_len ps i a hil (by omega)
      have cp : wr.cell? ⟨g, a + 1, none⟩ = some (.pointer (some ⟨p, 0, none⟩)) := by
        rw [hIr.cell, List.getElem?_append_left (by rw [List.length_map]; omega), List.getElem?_map, shiftR_at ps i a (a + 1) hil (by omega) (by omega), hp]
        rfl
      obtain ⟨pa, hpa⟩ : ∃ x, ps[a]? = some x := ⟨_, List.getElem?_eq_getElem (by omega)⟩
      have co : wr.cell? ⟨g, a, none⟩ = some (.pointer (some ⟨pa, 0, none⟩)) := by
        rw [hIr.cell, List.getElem?_append_left (by rw [List.length_map]; omega), List.getElem?_map, shiftR_at ps i a a hil (by omega) (by omega), hpa]
        rfl
      clear hpa
      have fo := hIr.free a
      have hgr := hIr.lt
      have hsr : sb < wr.heap.size := by have := hOr.size; omega
      have cs : wr.cell? ⟨sb, 0, none⟩ = some (.int .i64 k) := by
        have e := hOr.block sb hs hsg
        unfold World.cell? at c ⊢
        rw [e]
        exact c
      have hfalse : ((o.id : Int) == k) = false := by
        cases hx : ((o.id : Int) == k) with
        | false => rfl
        | true => have := unhide hu (a + 1) o ho hx; omega
      have HC1 := hide (drop1_any p sb o k wr hIp hsr cs)
      have hstep := shiftR_step ps i a p hia (by omega) hp
      have hset : Is (wr.setCell ⟨g, a, none⟩ (.pointer (some ⟨p, 0, none⟩))) g 169 ((shiftR ps i (a + 1)).map ptr ++ tl) := by
        have := hIr.set a (ptr p)
        rw [List.set_append_left _ _ (by rw [List.length_map]; omega), ← List.map_set, hstep] at this
        exact this
      have HSET := hide hset
      have hlt' : (a : Int) + 1 < m := by omega
      have HOR := hide hOr
      clear hme hil hI ho hp hIp hl hIr hOr hstep hset
      go_wp2_with fail
      refine (unhide HC1).mono ?_
      rintro e w1 ⟨rfl, n1, rfl⟩
      rw [hfalse]
      go_wp2_with fail
      go_roundw
      case rel => exact ⟨a + 1, by simp, by simp, by omega, by omega, (unhide HSET).drewN n1, ((unhide HOR).set g a _ (fun _ => rfl)).drewN n1⟩
      case measure => simp [intOf]; omega
    · have hlt' : ¬ (a : Int) + 1 < m := by omega
      have hme := unhide HME
      have hil := unhide HIL
      have hl := shiftR_len ps i a hil (by omega)
      obtain ⟨pa, hpa⟩ : ∃ x, ps[a]? = some x := ⟨_, List.getElem?_eq_getElem (by omega)⟩
      have co : wr.cell? ⟨g, a, none⟩ = some (.pointer (some ⟨pa, 0, none⟩)) := by
        rw [hIr.cell, List.getElem?_append_left (by rw [List.length_map]; omega), List.getElem?_map, shiftR_at ps i a a hil (by omega) (by omega), hpa]
        rfl
      clear hpa
      have hcl := fun c => clear_ptr g a c wr (by rw [co]; rfl) (hIr.free a)
      have hset : Is (wr.setCell ⟨g, a, none⟩ (.pointer none)) g 169 (((shiftR ps i a).map ptr ++ tl).set a (.pointer none)) := hIr.set a (.pointer none)
      have hma : m = a + 1 := by omega
      have hfin : (wr.setCell ⟨g, a, none⟩ (.pointer none)).ownsRow B 169 1 (.slice (some ⟨g, 0, none⟩) a cap) (ps.eraseIdx i).length ((ps.eraseIdx i).map ptr) := by
        have he := List.length_eraseIdx_of_lt hil
        refine ⟨by simp, .inr ⟨g, cap, _, by rw [he]; congr 1; omega, hBg, hset, by omega, hcm, ?_, ?_⟩⟩
        · rw [List.size_toArray, List.length_set, List.length_append, List.length_map, hl]; omega
        · rw [List.toList_toArray, Nat.mul_one, he, List.take_set_of_le (by omega), List.take_append_of_le_length (by rw [List.length_map, hl]; omega), ← List.map_take]
          have : ps.length - 1 = a := by omega
          rw [this, shiftR_end ps i a hil (by omega)]
      have HFIN := hide hfin
      have HOR := hide hOr
      subst hma
      clear hme hl co hset hfin hIr hOr
      go_wp2_with fail
      go_ret
      exact ⟨rfl, unhide HFIN, (unhide HOR).set g a _ (fun _ => rfl)⟩
end Go.Proofs.YtbkpdapagfjmmaaGreatDoor
