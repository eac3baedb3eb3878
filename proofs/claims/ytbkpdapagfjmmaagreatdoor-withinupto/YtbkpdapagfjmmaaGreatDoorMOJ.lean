import Derived.Test.YtbkpdapagfjmmaaGreatDoorRows
import Derived.Test.YtbkpdapagfjmmaaGreatDoorMS3
import Derived.Test.YtbkpdapagfjmmaaGreatDoorMSpec5Z1
import Derived.SliceStrings
import Derived.OpenShut
/-
  A script: the steps as they lie in memory.
-/
namespace Go.Proofs.YtbkpdapagfjmmaaGreatDoor.Sc
open Go.ChangeShapes Go.WideShapes Go.ChangeAt Go.RowKit Go.Deep
set_option linter.unusedVariables false

/-- A step of a script, as it lies in memory. -/
structure OpJ where
  kd : Int
  a : Int
  b : Int
  s : ByteArray
  t : ByteArray
  n : Int
  ha : Option Addr
  hl : Nat
  hc : Nat
  h : List ByteArray

def OpJ.vals (o : OpJ) : List Value := [.int .i64 o.kd, .int .i64 o.a, .int .i64 o.b, .string o.s, .string o.t, .int .i64 o.n, .slice o.ha o.hl o.hc]

/-- The steps of a script lie in a row; their numbers are numbers. -/
structure OpJ.Ok (w : World) (o : OpJ) : Prop where
  s : o.s.size ≤ 1048576
  h : o.h.length ≤ 1048576
  strs : Strs w (.slice o.ha o.hl o.hc) o.h
  kd : -9223372036854775808 ≤ o.kd ∧ o.kd ≤ 9223372036854775807
  a : -9223372036854775808 ≤ o.a ∧ o.a ≤ 9223372036854775807
  n : -9223372036854775808 ≤ o.n ∧ o.n ≤ 9223372036854775807
def ScriptJ (w : World) (blk off len : Nat) (ops : Nat → OpJ) : Prop := blk < w.heap.size ∧ ∀ i, i < len → (ops i).Ok w ∧ ∀ j, j < 7 → w.cell? ⟨blk, off + i * 7 + j, none⟩ = (ops i).vals[j]?
theorem cellsOp : Tryz.prog.cellsOf 33 = 7 := by kernel_rfl
theorem cells3 : Tryz.prog.cellsOf 3 = 1 := by kernel_rfl
theorem cellsSl : Tryz.prog.cellsOf 31 = 1 := by kernel_rfl

theorem part_le {H : Type} {d : DataW H} {l : List (DataW H)} (h : d ∈ l) : Rows.uptoBulk d ≤ Rows.uptoBulkAll l := by
  induction l with
  | nil => cases h
  | cons x r ih =>
    simp only [Rows.uptoBulkAll]
    rcases List.mem_cons.1 h with e | e
    · subst e; omega
    · have := ih e; omega
theorem length_le {H : Type} (l : List (DataW H)) (hp : ∀ d ∈ l, 1 ≤ Rows.uptoBulk d) : l.length ≤ Rows.uptoBulkAll l := by
  induction l with
  | nil => simp
  | cons x r ih =>
    have h1 := hp x (by simp)
    have h2 := ih (fun d hd => hp d (by simp [hd]))
    simp only [Rows.uptoBulkAll, List.length_cons]
    omega
theorem one_le {H : Type} (d : DataW H) : 1 ≤ Rows.uptoBulk d := by
  cases d with
  | lit l => cases l <;> simp [Rows.uptoBulk]
  | nil => simp [Rows.uptoBulk]
  | ptr d => simp [Rows.uptoBulk]
  | slice elems spare => simp [Rows.uptoBulk]
  | agg parts => simp [Rows.uptoBulk]
  | iface t d => simp [Rows.uptoBulk]
  | map entries => simp [Rows.uptoBulk]
  | held h => simp [Rows.uptoBulk]
theorem add_plain (b off i : Nat) : (⟨b, off, none⟩ : Addr).add i = ⟨b, off + i, none⟩ := by unfold Addr.add; split <;> simp_all
theorem strs_length {H : Type} (l : List ByteArray) : (strs (H := H) l).length = l.length := by simp [strs]

/-- A list of strings that was read as data. -/
theorem strs_of {H : Type} {enc : TypeId × Value → H} {w : World} {spare : Nat → Bool} {held : Bool} {fuel : Nat} {cs : List Value} {x : DataW H × List MemPlace}
    (h : DataW.trod enc Tryz.prog w 0 spare held fuel 31 cs = some x) : ∃ sv ls, cs = [sv] ∧ Strs w sv ls ∧ ls.length ≤ Rows.uptoBulk x.1 := by
  rcases open_strings Tryz.underlying31 Tryz.underlying9 cellsStr h with ⟨rfl, rfl⟩ | ⟨a, len, cap, ss, rfl, _, hlc, _, hsl, rfl, hc, _⟩
  · exact ⟨_, [], rfl, .inl ⟨rfl, _, _, rfl⟩, by simp⟩
  · have hlen : len ≤ ss.length := by rw [hsl]; split <;> omega
    refine ⟨_, ss.take len, rfl, ?_, ?_⟩
    · by_cases h0 : len = 0
      · subst h0
        exact .inl ⟨by simp, _, _, rfl⟩
      · obtain ⟨blk, off, spot⟩ := a
        have e0 := hc 0 (by omega)
        have hsp : spot = none := World.cell?_spot (by simpa [Addr.add] using e0)
        subst hsp
        refine .inr ⟨blk, off, cap, by rw [List.length_take, Nat.min_eq_left hlen], World.block_lt_of_cell? _ _ e0, fun i y hy => ?_⟩
        have hi : i < len := by
          have := (List.getElem?_eq_some_iff.1 hy).1
          rw [List.length_take] at this
          omega
        rw [List.getElem?_take_of_lt hi] at hy
        have := hc i (by omega)
        rw [add_plain] at this
        rw [this]
        simp [List.getD, hy]
    · simp only [Rows.uptoBulk]
      have := length_le (strs (H := H) (ss.take len)) (fun d _ => one_le d)
      rw [strs_length] at this
      omega

set_option maxRecDepth 100000 in
theorem open_op {H : Type} {enc : TypeId × Value → H} {w : World} {spare : Nat → Bool} {held : Bool} {fuel : Nat} {cs : List Value} {x : DataW H × List MemPlace}
    (h : DataW.trod enc Tryz.prog w 0 spare held fuel 33 cs = some x) : ∃ o : OpJ, cs = o.vals ∧ o.s.size + 8 ≤ Rows.uptoBulk x.1 ∧ o.h.length ≤ Rows.uptoBulk x.1 ∧ Strs w (.slice o.ha o.hl o.hc) o.h ∧ (-9223372036854775808 ≤ o.kd ∧ o.kd ≤ 9223372036854775807) ∧ (-9223372036854775808 ≤ o.a ∧ o.a ≤ 9223372036854775807) ∧ (-9223372036854775808 ≤ o.n ∧ o.n ≤ 9223372036854775807) := by
  obtain ⟨xs, n, _, rfl, hl, hlen, hf⟩ := DataW.trod_struct Tryz.underlying33 h
  rw [cellsOp] at hl
  match cs, hl with
  | [c0, c1, c2, c3, c4, c5, c6], _ =>
  match xs, hlen with
  | [y0, y1, y2, y3, y4, y5, y6], _ =>
  have f0 : DataW.trod enc Tryz.prog w 0 spare held n 3 (([c0, c1, c2, c3, c4, c5, c6].drop 0).take (Tryz.prog.cellsOf 3)) = some y0 := hf 0 _ rfl
  rw [cells3] at f0
  have f1 : DataW.trod enc Tryz.prog w 0 spare held n 3 (([c0, c1, c2, c3, c4, c5, c6].drop 1).take (Tryz.prog.cellsOf 3)) = some y1 := hf 1 _ rfl
  rw [cells3] at f1
  have f2 : DataW.trod enc Tryz.prog w 0 spare held n 3 (([c0, c1, c2, c3, c4, c5, c6].drop 2).take (Tryz.prog.cellsOf 3)) = some y2 := hf 2 _ rfl
  rw [cells3] at f2
  have f3 : DataW.trod enc Tryz.prog w 0 spare held n 9 (([c0, c1, c2, c3, c4, c5, c6].drop 3).take (Tryz.prog.cellsOf 9)) = some y3 := hf 3 _ rfl
  rw [cellsStr] at f3
  have f4 : DataW.trod enc Tryz.prog w 0 spare held n 9 (([c0, c1, c2, c3, c4, c5, c6].drop 4).take (Tryz.prog.cellsOf 9)) = some y4 := hf 4 _ rfl
  rw [cellsStr] at f4
  have f5 : DataW.trod enc Tryz.prog w 0 spare held n 3 (([c0, c1, c2, c3, c4, c5, c6].drop 5).take (Tryz.prog.cellsOf 3)) = some y5 := hf 5 _ rfl
  rw [cells3] at f5
  have f6 : DataW.trod enc Tryz.prog w 0 spare held n 31 (([c0, c1, c2, c3, c4, c5, c6].drop 6).take (Tryz.prog.cellsOf 31)) = some y6 := hf 6 _ rfl
  rw [cellsSl] at f6
  simp only [List.drop_zero, List.drop_succ_cons, List.take_succ_cons, List.take_zero] at f0 f1 f2 f3 f4 f5 f6
  obtain ⟨kd, e0, rfl, wf0⟩ := DataW.trod_int Tryz.underlying3 f0
  obtain ⟨a, e1, rfl, wf1⟩ := DataW.trod_int Tryz.underlying3 f1
  obtain ⟨b, e2, rfl, _⟩ := DataW.trod_int Tryz.underlying3 f2
  obtain ⟨s, e3, rfl, _⟩ := DataW.trod_string Tryz.underlying9 f3
  obtain ⟨t, e4, rfl, _⟩ := DataW.trod_string Tryz.underlying9 f4
  obtain ⟨m, e5, rfl, wf5⟩ := DataW.trod_int Tryz.underlying3 f5
  obtain ⟨sv, ls, e6, hst6, hl6⟩ := strs_of f6
  have hsl : ∃ ha hl hc, sv = Value.slice ha hl hc := by
    rcases hst6 with ⟨_, a, c, rfl⟩ | ⟨g, o, cap, rfl, _⟩
    · exact ⟨_, _, _, rfl⟩
    · exact ⟨_, _, _, rfl⟩
  obtain ⟨ha, hl, hc, rfl⟩ := hsl
  simp only [List.cons.injEq, and_true] at e0 e1 e2 e3 e4 e5 e6
  subst e0 e1 e2 e3 e4 e5 e6
  refine ⟨⟨kd, a, b, s, t, m, ha, hl, hc, ls⟩, rfl, ?_, ?_, hst6, bounds_i64 wf0, bounds_i64 wf1, bounds_i64 wf5⟩
  · have h6 := one_le y6.1
    simp only [List.map_cons, List.map_nil, Rows.uptoBulk, Rows.uptoBulkAll]
    rw [size_list]
    omega
  · simp only [List.map_cons, List.map_nil, Rows.uptoBulk, Rows.uptoBulkAll]
    omega

/-- The bytes of the first n steps' texts, and eight for each step. -/
def sumS (ops : Nat → OpJ) : Nat → Nat
  | 0 => 0
  | n + 1 => sumS ops n + ((ops n).s.size + 8)
theorem sumS_eight (ops : Nat → OpJ) : ∀ (n : Nat), 8 * n ≤ sumS ops n
  | 0 => Nat.zero_le _
  | n + 1 => by
    have := sumS_eight ops n
    rw [sumS]
    omega
theorem sumS_mono (ops : Nat → OpJ) {n m : Nat} (h : n ≤ m) : sumS ops n ≤ sumS ops m := by
  induction h with
  | refl => exact Nat.le_refl _
  | step _ ih => exact Nat.le_trans ih (Nat.le_add_right _ _)
theorem bulkAll_append {H : Type} (a b : List (DataW H)) : Rows.uptoBulkAll (a ++ b) = Rows.uptoBulkAll a + Rows.uptoBulkAll b := by
  induction a with
  | nil => simp [Rows.uptoBulkAll]
  | cons x a ih =>
    simp only [List.cons_append, Rows.uptoBulkAll, ih]
    omega
theorem sumS_le {H : Type} (ops : Nat → OpJ) (D : Nat → DataW H) : ∀ (n : Nat), (∀ i, i < n → (ops i).s.size + 8 ≤ Rows.uptoBulk (D i)) → sumS ops n ≤ Rows.uptoBulkAll ((List.range n).map D)
  | 0, _ => Nat.zero_le _
  | n + 1, h => by
    have h1 := sumS_le ops D n (fun i hi => h i (by omega))
    have h2 := h n (by omega)
    rw [List.range_succ, List.map_append, bulkAll_append]
    simp only [sumS, List.map_cons, List.map_nil, Rows.uptoBulkAll]
    omega

/-- A script that was read as data, and is small: what the walk wants of it. -/
theorem script_of2 {H : Type} {enc : TypeId × Value → H} {w : World} {spare : Nat → Bool} {held : Bool} {fuel : Nat} {ad : Option Addr} {len cap : Nat} {x : DataW H × List MemPlace}
    (h : DataW.trod enc Tryz.prog w 0 spare held fuel 22 [.slice ad len cap] = some x) (hk : Rows.uptoBulk x.1 ≤ 1048576) :
    len = 0 ∨ ∃ blk off ops, ad = some ⟨blk, off, none⟩ ∧ len ≤ 1048576 ∧ ScriptJ w blk off len ops ∧ sumS ops len ≤ 1048576 := by
  rcases open_slice Tryz.underlying22 h with ⟨hcs, _⟩ | ⟨a, len', cap', m, n, D, Pl, hcs, _, hlc, _, hmm, rfl, hx⟩
  · simp at hcs
    exact .inl hcs.2.1
  · simp at hcs
    obtain ⟨rfl, rfl, rfl⟩ := hcs
    by_cases h0 : len = 0
    · exact .inl h0
    right
    have hlm : len ≤ m := by rw [hmm]; split <;> omega
    simp only [Rows.uptoBulk] at hk
    have hlen : len ≤ Rows.uptoBulkAll ((List.range len).map D) := by
      have := length_le ((List.range len).map D) (fun d _ => one_le d)
      simpa using this
    rw [cellsOp] at hx
    obtain ⟨blk, off, spot⟩ := a
    have hsp : spot = none := by
      obtain ⟨cs', h1, _⟩ := hx 0 (by omega)
      obtain ⟨_, hl', hc⟩ := World.cells?_some h1
      have e := hc 0 (by omega)
      have hz : ((⟨blk, off, spot⟩ : Addr).add (0 * 7)).add 0 = ⟨blk, off, spot⟩ := by simp [Addr.add]
      rw [hz, List.getElem?_eq_getElem (by omega)] at e
      exact World.cell?_spot e
    subst hsp
    have hops : ∀ i, i < len → ∃ o : OpJ, (o.Ok w ∧ (∀ j, j < 7 → w.cell? ⟨blk, off + i * 7 + j, none⟩ = o.vals[j]?) ∧ o.s.size + 8 ≤ Rows.uptoBulk (D i)) := by
      intro i hi
      obtain ⟨cs', h1, h2⟩ := hx i (by omega)
      obtain ⟨o, rfl, ho, ho2, hstr, r0, r1, r5⟩ := open_op h2
      refine ⟨o, ⟨?_, ?_, hstr, r0, r1, r5⟩, ?_, ho⟩
      · have hmem : D i ∈ (List.range len).map D := List.mem_map.2 ⟨i, List.mem_range.2 hi, rfl⟩
        have := part_le hmem
        simp only at ho
        omega
      · have hmem : D i ∈ (List.range len).map D := List.mem_map.2 ⟨i, List.mem_range.2 hi, rfl⟩
        have := part_le hmem
        simp only at ho2
        omega
      · intro j hj
        obtain ⟨_, hl', hc⟩ := World.cells?_some h1
        have e := hc j hj
        rw [add_plain, add_plain] at e
        exact e
    haveI : Inhabited OpJ := ⟨⟨0, 0, 0, ⟨#[]⟩, ⟨#[]⟩, 0, none, 0, 0, []⟩⟩
    obtain ⟨ops, hops⟩ := choose_lt hops
    refine ⟨blk, off, ops, rfl, by omega, ⟨?_, fun i hi => ⟨(hops i hi).1, (hops i hi).2.1⟩⟩, ?_⟩
    · obtain ⟨cs', h1, _⟩ := hx 0 (by omega)
      have := World.cells?_block h1 (by omega)
      simpa [Addr.add] using this
    · have := sumS_le ops D len (fun i hi => (hops i hi).2.2)
      omega
theorem script_of {H : Type} {enc : TypeId × Value → H} {w : World} {spare : Nat → Bool} {held : Bool} {fuel : Nat} {ad : Option Addr} {len cap : Nat} {x : DataW H × List MemPlace}
    (h : DataW.trod enc Tryz.prog w 0 spare held fuel 22 [.slice ad len cap] = some x) (hk : Rows.uptoBulk x.1 ≤ 1048576) :
    len = 0 ∨ ∃ blk off ops, ad = some ⟨blk, off, none⟩ ∧ len ≤ 1048576 ∧ ScriptJ w blk off len ops := by
  rcases script_of2 h hk with h | ⟨blk, off, ops, h1, h2, h3, _⟩
  · exact .inl h
  · exact .inr ⟨blk, off, ops, h1, h2, h3⟩

end Go.Proofs.YtbkpdapagfjmmaaGreatDoor.Sc
