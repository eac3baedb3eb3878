import Derived.Test.YtbkpdapagfjmmaaDoorMN2PC
import Derived.Laws.IdiomCopy
/-
  Walks: a stream of its own is dropped.
-/
namespace Go.Proofs.YtbkpdapagfjmmaaDoor
open Go.RowKit

theorem info_op : (Tryd.prog.info? 143).map (fun i => (i.zero, i.size, i.bytes)) = some (some (.pointer none), 1, 8) := by kernel_rfl
theorem clear_ptr (g m cap : Nat) (W : World) (hc : (W.cell? ⟨g, m, none⟩).isSome = true) (hf : W.frozen? ⟨g, m, none⟩ = false) :
    (Builtin.clear_ #[94] 0 #[.slice (some ⟨g, m, none⟩) 1 cap]).run Tryd.prog W = .ok (.tuple #[]) (W.setCell ⟨g, m, none⟩ (.pointer none)) := by
  obtain ⟨i, hi, hz0, hz1, hz2⟩ := info_parts info_op
  have hst := run_storeCells_cells (P := Tryd.prog) g m [.pointer none] 0 W (by simpa using hc) (by simpa using hf) (by simp [Value.oneCell'])
  simp only [Nat.add_zero, World.setCells] at hst
  simp [Builtin.clear_, run_underlying Tryd.underlying94, zeroValue, typeInfo, hi, hz0, Builtin.zeroCells, Value.cells, List.range_succ, hst]

/-- The row while a stream is taken out. -/
def shiftR (ps : List Nat) (i a : Nat) : List Nat := (ps.eraseIdx i).take a ++ ps.drop a
theorem shiftR_start (ps : List Nat) (i : Nat) (hi : i < ps.length) : shiftR ps i i = ps := by
  unfold shiftR
  rw [List.eraseIdx_eq_take_drop_succ, List.take_append_of_le_length (by simp; omega), List.take_take, Nat.min_self, List.take_append_drop]
theorem shiftR_len (ps : List Nat) (i a : Nat) (hi : i < ps.length) (ha : a < ps.length) : (shiftR ps i a).length = ps.length := by
  unfold shiftR
  rw [List.length_append, List.length_take, List.length_drop, List.length_eraseIdx_of_lt hi]
  omega
theorem shiftR_at (ps : List Nat) (i a j : Nat) (hi : i < ps.length) (ha : a < ps.length) (hj : a ≤ j) : (shiftR ps i a)[j]? = ps[j]? := by
  unfold shiftR
  have hl : ((ps.eraseIdx i).take a).length = a := by rw [List.length_take, List.length_eraseIdx_of_lt hi]; omega
  rw [List.getElem?_append_right (by omega), hl, List.getElem?_drop]
  congr 1
  omega
theorem shiftR_step (ps : List Nat) (i a p : Nat) (hi : i ≤ a) (ha : a + 1 < ps.length) (hp : ps[a + 1]? = some p) : (shiftR ps i a).set a p = shiftR ps i (a + 1) := by
  have hil : i < ps.length := by omega
  apply List.ext_getElem?
  intro j
  have hl : ((ps.eraseIdx i).take a).length = a := by rw [List.length_take, List.length_eraseIdx_of_lt hil]; omega
  have hl1 : ((ps.eraseIdx i).take (a + 1)).length = a + 1 := by rw [List.length_take, List.length_eraseIdx_of_lt hil]; omega
  have hls := shiftR_len ps i a hil (by omega)
  rw [List.getElem?_set]
  by_cases e : a = j
  · subst e
    rw [if_pos rfl, if_pos (by omega)]
    unfold shiftR
    rw [List.getElem?_append_left (by omega), List.getElem?_take_of_lt (by omega), List.getElem?_eraseIdx, if_neg (by omega), hp]
  · rw [if_neg e]
    unfold shiftR
    by_cases h : j < a
    · rw [List.getElem?_append_left (by omega), List.getElem?_append_left (by omega), List.getElem?_take_of_lt h, List.getElem?_take_of_lt (by omega)]
    · rw [List.getElem?_append_right (by omega), List.getElem?_append_right (by omega), hl, hl1, List.getElem?_drop, List.getElem?_drop]
      congr 1
      omega
theorem shiftR_end (ps : List Nat) (i a : Nat) (hi : i < ps.length) (ha : a + 1 = ps.length) : (shiftR ps i a).take a = ps.eraseIdx i := by
  unfold shiftR
  have hl := List.length_eraseIdx_of_lt hi
  rw [List.take_append_of_le_length (by rw [List.length_take]; omega), List.take_take, Nat.min_self, List.take_of_length_le (by omega)]

set_option maxHeartbeats 1000000 in
set_option maxRecDepth 100000 in
theorem deleteFunc_none (g m cap sb B : Nat) (os : List Lk.Ow) (ps : List Nat) (k : Int) (w : World) (hO : Outs w os ps) (ho : w.ownsRow B 143 1 (.slice (some ⟨g, 0, none⟩) m cap) ps.length (ps.map ptr)) (hm : Hid (m = ps.length)) (h4 : ps.length ≤ 1000) (hs : sb < w.heap.size) (c : w.cell? ⟨sb, 0, none⟩ = some (.int .i64 k))
    (hR : Hid (os.findIdx? (isId k) = none)) :
    Calls Tryd.prog 104 #[.slice (some ⟨g, 0, none⟩) m cap, dropV sb] w fun e w' => e = .returned (.slice (some ⟨g, 0, none⟩) m cap) ∧ ∃ n, w' = w.drewN n := by
  have HC := hide (indexFunc_any g m cap sb B os ps k none w hO ho hm h4 hs c hR)
  clear hO ho
  unfold dropV at *
  go_enter Tryd.func104, Tryd.ntmps104
  go_wp2_with fail
  refine (unhide HC).mono ?_
  rintro e w1 ⟨rfl, n, rfl⟩
  simp only [idxV]
  go_wp2_with fail
  go_ret
  exact ⟨rfl, n, rfl⟩

set_option maxHeartbeats 2000000 in
set_option maxRecDepth 100000 in
theorem deleteFunc_some (g m cap sb B i : Nat) (os : List Lk.Ow) (ps : List Nat) (k : Int) (w : World) (hO : Outs w os ps) (ho : w.ownsRow B 143 1 (.slice (some ⟨g, 0, none⟩) m cap) ps.length (ps.map ptr)) (hm : Hid (m = ps.length)) (h4 : ps.length ≤ 1000) (hs : sb < w.heap.size) (c : w.cell? ⟨sb, 0, none⟩ = some (.int .i64 k)) (hsg : sb ≠ g)
    (hR : Hid (os.findIdx? (isId k) = some i)) (hu : Hid (∀ j o, os[j]? = some o → isId k o = true → j = i)) :
    Calls Tryd.prog 104 #[.slice (some ⟨g, 0, none⟩) m cap, dropV sb] w fun e w' =>
      e = .returned (.slice (some ⟨g, 0, none⟩) (m - 1) cap) ∧ w'.ownsRow B 143 1 (.slice (some ⟨g, 0, none⟩) (m - 1) cap) (ps.eraseIdx i).length ((ps.eraseIdx i).map ptr) ∧ Only (· = g) w w' := by
  have HC := hide (indexFunc_any g m cap sb B os ps k (some i) w hO ho hm h4 hs c hR)
  have hil : i < ps.length := by
    rw [← hO.len]
    exact (List.findIdx?_eq_some_iff_getElem.1 (unhide hR)).1
  obtain ⟨cur, hBg, hgI, hcap, hcm, hcs, ht⟩ : ∃ cur : Array Value, B ≤ g ∧ Is w g 143 cur.toList ∧ ps.length ≤ cap ∧ cap ≤ maxLen ∧ cur.size = cap * 1 ∧ cur.toList.take (ps.length * 1) = ps.map ptr := by
    rcases ho.2 with ⟨h, _⟩ | ⟨_, _, cur, h, h1, h2, h3, h4, h5, h6⟩
    · cases h
    · cases h; exact ⟨cur, h1, by unfold Is; simpa using h2, h3, h4, h5, h6⟩
  generalize htl : cur.toList.drop ps.length = tl
  have hcur : cur.toList = ps.map ptr ++ tl := by rw [← htl, ← ht, Nat.mul_one, List.take_append_drop]
  have htll : tl.length = cap - ps.length := by rw [← htl, List.length_drop, Array.length_toList]; omega
  rw [hcur] at hgI
  have hgl := hgI.lt
  have HI := hide hgI
  have HO := hide hO
  have HME := hide (unhide hm)
  have HIL := hide hil
  clear ho hO hgI htl hcur ht hcs
  have hmn : i + 1 ≤ m := by have := unhide hm; omega
  have hm4 : m ≤ 1000 := by have := unhide hm; omega
  have hmc : m ≤ cap := by have := unhide hm; omega
  clear hil h4 hcap
  unfold dropV at *
  go_enter Tryd.func104, Tryd.ntmps104
  go_wp2_with fail
  refine (unhide HC).mono ?_
  rintro e w1 ⟨rfl, n, rfl⟩
  simp only [idxV]
  have hi0 : ((i : Int) == -1) = false := by rw [beq_eq_false_iff_ne]; omega
  go_wp2_with fail
  go_loopw [5, 6] (fun u v wr => ∃ a : Nat, u = .int .i64 a ∧ v = .int .i64 ((a : Int) + 1) ∧ i ≤ a ∧ a + 1 ≤ m ∧ Is wr g 143 ((shiftR ps i a).map ptr ++ tl) ∧ Only (· = g) w wr) (fun u _ _ => m - (intOf u).toNat)
  case atStart => exact ⟨i, rfl, rfl, by omega, by omega, by rw [shiftR_start ps i (unhide HIL)]; exact (unhide HI).drewN n, (Only.refl _ _).drewN n⟩
  case round =>
    obtain ⟨a, rfl, rfl, hia, ham, hIr, hOr⟩ := hrel
    by_cases hlt : a + 1 < m
    · have hme := unhide HME
      have hil := unhide HIL
      obtain ⟨o, p, ho, hp, hI⟩ := (unhide HO).get (i := a + 1) (by rw [(unhide HO).len]; omega)
      have hpg : p ≠ g := fun e => by subst e; exact hI.ne (unhide HI) (Nat.ne_of_beq_eq_false rfl) rfl
      have hIp := hI.only hOr hpg
      have hl := shiftR_len ps i a hil (by omega)
      have cp : wr.cell? ⟨g, a + 1, none⟩ = some (.pointer (some ⟨p, 0, none⟩)) := by
        rw [hIr.cell, List.getElem?_append_left (by rw [List.length_map]; omega), List.getElem?_map, shiftR_at ps i a (a + 1) hil (by omega) (by omega), hp]
        rfl
      obtain ⟨pa, hpa⟩ : ∃ x, ps[a]? = some x := ⟨_, List.getElem?_eq_getElem (by omega)⟩
      have co : wr.cell? ⟨g, a, none⟩ = some (.pointer (some ⟨pa, 0, none⟩)) := by
        rw [hIr.cell, List.getElem?_append_left (by rw [List.length_map]; omega), List.getElem?_map, shiftR_at ps i a a hil (by omega) (by omega), hpa]
        rfl
      clear hpa
      have fo := hIr.free a
      have hgr := hIr.lt
      have hsr : sb < wr.heap.size := by have := hOr.size; omega
      have cs : wr.cell? ⟨sb, 0, none⟩ = some (.int .i64 k) := by
        have e := hOr.block sb hs hsg
        unfold World.cell? at c ⊢
        rw [e]
        exact c
      have hfalse : ((o.id : Int) == k) = false := by
        cases hx : ((o.id : Int) == k) with
        | false => rfl
        | true => have := unhide hu (a + 1) o ho hx; omega
      have HC1 := hide (drop1_any p sb o k wr hIp hsr cs)
      have hstep := shiftR_step ps i a p hia (by omega) hp
      have hset : Is (wr.setCell ⟨g, a, none⟩ (.pointer (some ⟨p, 0, none⟩))) g 143 ((shiftR ps i (a + 1)).map ptr ++ tl) := by
        have := hIr.set a (ptr p)
        rw [List.set_append_left _ _ (by rw [List.length_map]; omega), ← List.map_set, hstep] at this
        exact this
      have HSET := hide hset
      have hlt' : (a : Int) + 1 < m := by omega
      have HOR := hide hOr
      clear hme hil hI ho hp hIp hl hIr hOr hstep hset
      go_wp2_with fail
      refine (unhide HC1).mono ?_
      rintro e w1 ⟨rfl, n1, rfl⟩
      rw [hfalse]
      go_wp2_with fail
      go_roundw
      case rel => exact ⟨a + 1, by simp, by simp, by omega, by omega, (unhide HSET).drewN n1, ((unhide HOR).set g a _ (fun _ => rfl)).drewN n1⟩
      case measure => simp [intOf]; omega
    · have hlt' : ¬ (a : Int) + 1 < m := by omega
      have hme := unhide HME
      have hil := unhide HIL
      have hl := shiftR_len ps i a hil (by omega)
      obtain ⟨pa, hpa⟩ : ∃ x, ps[a]? = some x := ⟨_, List.getElem?_eq_getElem (by omega)⟩
      have co : wr.cell? ⟨g, a, none⟩ = some (.pointer (some ⟨pa, 0, none⟩)) := by
        rw [hIr.cell, List.getElem?_append_left (by rw [List.length_map]; omega), List.getElem?_map, shiftR_at ps i a a hil (by omega) (by omega), hpa]
        rfl
      clear hpa
      have hcl := fun c => clear_ptr g a c wr (by rw [co]; rfl) (hIr.free a)
      have hset : Is (wr.setCell ⟨g, a, none⟩ (.pointer none)) g 143 (((shiftR ps i a).map ptr ++ tl).set a (.pointer none)) := hIr.set a (.pointer none)
      have hma : m = a + 1 := by omega
      have hfin : (wr.setCell ⟨g, a, none⟩ (.pointer none)).ownsRow B 143 1 (.slice (some ⟨g, 0, none⟩) a cap) (ps.eraseIdx i).length ((ps.eraseIdx i).map ptr) := by
        have he := List.length_eraseIdx_of_lt hil
        refine ⟨by simp, .inr ⟨g, cap, _, by rw [he]; congr 1; omega, hBg, hset, by omega, hcm, ?_, ?_⟩⟩
        · rw [List.size_toArray, List.length_set, List.length_append, List.length_map, hl]; omega
        · rw [List.toList_toArray, Nat.mul_one, he, List.take_set_of_le (by omega), List.take_append_of_le_length (by rw [List.length_map, hl]; omega), ← List.map_take]
          have : ps.length - 1 = a := by omega
          rw [this, shiftR_end ps i a hil (by omega)]
      have HFIN := hide hfin
      have HOR := hide hOr
      subst hma
      clear hme hl co hset hfin hIr hOr
      go_wp2_with fail
      go_ret
      exact ⟨rfl, unhide HFIN, (unhide HOR).set g a _ (fun _ => rfl)⟩
end Go.Proofs.YtbkpdapagfjmmaaDoor
