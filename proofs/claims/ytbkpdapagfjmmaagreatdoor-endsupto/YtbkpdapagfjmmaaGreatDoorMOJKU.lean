import Derived.Test.YtbkpdapagfjmmaaGreatDoorRows
import Derived.Test.YtbkpdapagfjmmaaGreatDoorMKLS3
import Derived.Test.YtbkpdapagfjmmaaGreatDoorMT1N1
import Derived.SliceStrings
import Derived.OpenShut
import Derived.Test.YtbkpdapagfjmmaaGreatDoorMKQKR
import Derived.Test.YtbkpdapagfjmmaaGreatDoorMKSKT
set_option linter.unusedVariables false
set_option maxRecDepth 100000
set_option maxHeartbeats 16000000
namespace Go.Proofs.YtbkpdapagfjmmaaGreatDoor.Sc
open Go.ChangeShapes Go.WideShapes Go.ChangeAt Go.RowKit Go.Deep
structure OpJ where
  kd : Int
  a : Int
  b : Int
  s : ByteArray
  t : ByteArray
  n : Int
  ha : Option Addr
  hl : Nat
  hc : Nat
  h : List ByteArray
def OpJ.vals (o : OpJ) : List Value := [.int .i64 o.kd, .int .i64 o.a, .int .i64 o.b, .string o.s, .string o.t, .int .i64 o.n, .slice o.ha o.hl o.hc]
structure OpJ.Ok (w : World) (o : OpJ) : Prop where
  s : o.s.size ≤ 1048576
  h : o.h.length ≤ 1048576
  strs : Strs w (.slice o.ha o.hl o.hc) o.h
  kd : -9223372036854775808 ≤ o.kd ∧ o.kd ≤ 9223372036854775807
  a : -9223372036854775808 ≤ o.a ∧ o.a ≤ 9223372036854775807
  n : -9223372036854775808 ≤ o.n ∧ o.n ≤ 9223372036854775807
def ScriptJ (w : World) (blk off len : Nat) (ops : Nat → OpJ) : Prop := blk < w.heap.size ∧ ∀ i, i < len → (ops i).Ok w ∧ ∀ j, j < 7 → w.cell? ⟨blk, off + i * 7 + j, none⟩ = (ops i).vals[j]?
theorem cellsOp : Tryz.prog.cellsOf 33 = 7 := by kernel_rfl
theorem cells3 : Tryz.prog.cellsOf 3 = 1 := by kernel_rfl
theorem cellsSl : Tryz.prog.cellsOf 31 = 1 := by kernel_rfl
theorem part_le {H : Type} {d : DataW H} {l : List (DataW H)} (h : d ∈ l) : Rows.uptoBulk d ≤ Rows.uptoBulkAll l := by
  induction l with
  | nil => cases h
  | cons x r ih =>
    simp only [Rows.uptoBulkAll]
    rcases List.mem_cons.1 h with e | e
    · subst e; omega
    · have := ih e; omega
theorem length_le {H : Type} (l : List (DataW H)) (hp : ∀ d ∈ l, 1 ≤ Rows.uptoBulk d) : l.length ≤ Rows.uptoBulkAll l := by
  induction l with
  | nil => simp
  | cons x r ih =>
    have h1 := hp x (by simp)
    have h2 := ih (fun d hd => hp d (by simp [hd]))
    simp only [Rows.uptoBulkAll, List.length_cons]
    omega
theorem one_le {H : Type} (d : DataW H) : 1 ≤ Rows.uptoBulk d := by
  cases d with
  | lit l => cases l <;> simp [Rows.uptoBulk]
  | nil => simp [Rows.uptoBulk]
  | ptr d => simp [Rows.uptoBulk]
  | slice elems spare => simp [Rows.uptoBulk]
  | agg parts => simp [Rows.uptoBulk]
  | iface t d => simp [Rows.uptoBulk]
  | map entries => simp [Rows.uptoBulk]
  | held h => simp [Rows.uptoBulk]
theorem add_plain (b off i : Nat) : (⟨b, off, none⟩ : Addr).add i = ⟨b, off + i, none⟩ := by unfold Addr.add; split <;> simp_all
theorem strs_length {H : Type} (l : List ByteArray) : (strs (H := H) l).length = l.length := by simp [strs]
theorem strs_of {H : Type} {enc : TypeId × Value → H} {w : World} {spare : Nat → Bool} {held : Bool} {fuel : Nat} {cs : List Value} {x : DataW H × List MemPlace}
    (h : DataW.trod enc Tryz.prog w 0 spare held fuel 31 cs = some x) : ∃ sv ls, cs = [sv] ∧ Strs w sv ls ∧ ls.length ≤ Rows.uptoBulk x.1 := by
  rcases open_strings Tryz.underlying31 Tryz.underlying9 cellsStr h with ⟨rfl, rfl⟩ | ⟨a, len, cap, ss, rfl, _, hlc, _, hsl, rfl, hc, _⟩
  · exact ⟨_, [], rfl, .inl ⟨rfl, _, _, rfl⟩, by simp⟩
  · have hlen : len ≤ ss.length := by rw [hsl]; split <;> omega
    refine ⟨_, ss.take len, rfl, ?_, ?_⟩
    · by_cases h0 : len = 0
      · subst h0
        exact .inl ⟨by simp, _, _, rfl⟩
      · obtain ⟨blk, off, spot⟩ := a
        have e0 := hc 0 (by omega)
        have hsp : spot = none := World.cell?_spot (by simpa [Addr.add] using e0)
        subst hsp
        refine .inr ⟨blk, off, cap, by rw [List.length_take, Nat.min_eq_left hlen], World.block_lt_of_cell? _ _ e0, fun i y hy => ?_⟩
        have hi : i < len := by
          have := (List.getElem?_eq_some_iff.1 hy).1
          rw [List.length_take] at this
          omega
        rw [List.getElem?_take_of_lt hi] at hy
        have := hc i (by omega)
        rw [add_plain] at this
        rw [this]
        simp [List.getD, hy]
    · simp only [Rows.uptoBulk]
      have := length_le (strs (H := H) (ss.take len)) (fun d _ => one_le d)
      rw [strs_length] at this
      omega
theorem open_op {H : Type} {enc : TypeId × Value → H} {w : World} {spare : Nat → Bool} {held : Bool} {fuel : Nat} {cs : List Value} {x : DataW H × List MemPlace}
    (h : DataW.trod enc Tryz.prog w 0 spare held fuel 33 cs = some x) : ∃ o : OpJ, cs = o.vals ∧ o.s.size + 8 ≤ Rows.uptoBulk x.1 ∧ o.h.length ≤ Rows.uptoBulk x.1 ∧ Strs w (.slice o.ha o.hl o.hc) o.h ∧ (-9223372036854775808 ≤ o.kd ∧ o.kd ≤ 9223372036854775807) ∧ (-9223372036854775808 ≤ o.a ∧ o.a ≤ 9223372036854775807) ∧ (-9223372036854775808 ≤ o.n ∧ o.n ≤ 9223372036854775807) := by
  obtain ⟨xs, n, _, rfl, hl, hlen, hf⟩ := DataW.trod_struct Tryz.underlying33 h
  rw [cellsOp] at hl
  match cs, hl with
  | [c0, c1, c2, c3, c4, c5, c6], _ =>
  match xs, hlen with
  | [y0, y1, y2, y3, y4, y5, y6], _ =>
  have f0 : DataW.trod enc Tryz.prog w 0 spare held n 3 (([c0, c1, c2, c3, c4, c5, c6].drop 0).take (Tryz.prog.cellsOf 3)) = some y0 := hf 0 _ rfl
  rw [cells3] at f0
  have f1 : DataW.trod enc Tryz.prog w 0 spare held n 3 (([c0, c1, c2, c3, c4, c5, c6].drop 1).take (Tryz.prog.cellsOf 3)) = some y1 := hf 1 _ rfl
  rw [cells3] at f1
  have f2 : DataW.trod enc Tryz.prog w 0 spare held n 3 (([c0, c1, c2, c3, c4, c5, c6].drop 2).take (Tryz.prog.cellsOf 3)) = some y2 := hf 2 _ rfl
  rw [cells3] at f2
  have f3 : DataW.trod enc Tryz.prog w 0 spare held n 9 (([c0, c1, c2, c3, c4, c5, c6].drop 3).take (Tryz.prog.cellsOf 9)) = some y3 := hf 3 _ rfl
  rw [cellsStr] at f3
  have f4 : DataW.trod enc Tryz.prog w 0 spare held n 9 (([c0, c1, c2, c3, c4, c5, c6].drop 4).take (Tryz.prog.cellsOf 9)) = some y4 := hf 4 _ rfl
  rw [cellsStr] at f4
  have f5 : DataW.trod enc Tryz.prog w 0 spare held n 3 (([c0, c1, c2, c3, c4, c5, c6].drop 5).take (Tryz.prog.cellsOf 3)) = some y5 := hf 5 _ rfl
  rw [cells3] at f5
  have f6 : DataW.trod enc Tryz.prog w 0 spare held n 31 (([c0, c1, c2, c3, c4, c5, c6].drop 6).take (Tryz.prog.cellsOf 31)) = some y6 := hf 6 _ rfl
  rw [cellsSl] at f6
  simp only [List.drop_zero, List.drop_succ_cons, List.take_succ_cons, List.take_zero] at f0 f1 f2 f3 f4 f5 f6
  obtain ⟨kd, e0, rfl, wf0⟩ := DataW.trod_int Tryz.underlying3 f0
  obtain ⟨a, e1, rfl, wf1⟩ := DataW.trod_int Tryz.underlying3 f1
  obtain ⟨b, e2, rfl, _⟩ := DataW.trod_int Tryz.underlying3 f2
  obtain ⟨s, e3, rfl, _⟩ := DataW.trod_string Tryz.underlying9 f3
  obtain ⟨t, e4, rfl, _⟩ := DataW.trod_string Tryz.underlying9 f4
  obtain ⟨m, e5, rfl, wf5⟩ := DataW.trod_int Tryz.underlying3 f5
  obtain ⟨sv, ls, e6, hst6, hl6⟩ := strs_of f6
  have hsl : ∃ ha hl hc, sv = Value.slice ha hl hc := by
    rcases hst6 with ⟨_, a, c, rfl⟩ | ⟨g, o, cap, rfl, _⟩
    · exact ⟨_, _, _, rfl⟩
    · exact ⟨_, _, _, rfl⟩
  obtain ⟨ha, hl, hc, rfl⟩ := hsl
  simp only [List.cons.injEq, and_true] at e0 e1 e2 e3 e4 e5 e6
  subst e0 e1 e2 e3 e4 e5 e6
  refine ⟨⟨kd, a, b, s, t, m, ha, hl, hc, ls⟩, rfl, ?_, ?_, hst6, bounds_i64 wf0, bounds_i64 wf1, bounds_i64 wf5⟩
  · have h6 := one_le y6.1
    simp only [List.map_cons, List.map_nil, Rows.uptoBulk, Rows.uptoBulkAll]
    rw [size_list]
    omega
  · simp only [List.map_cons, List.map_nil, Rows.uptoBulk, Rows.uptoBulkAll]
    omega
def sumS (ops : Nat → OpJ) : Nat → Nat
  | 0 => 0
  | n + 1 => sumS ops n + ((ops n).s.size + 8)
theorem sumS_eight (ops : Nat → OpJ) : ∀ (n : Nat), 8 * n ≤ sumS ops n
  | 0 => Nat.zero_le _
  | n + 1 => by
    have := sumS_eight ops n
    rw [sumS]
    omega
theorem sumS_mono (ops : Nat → OpJ) {n m : Nat} (h : n ≤ m) : sumS ops n ≤ sumS ops m := by
  induction h with
  | refl => exact Nat.le_refl _
  | step _ ih => exact Nat.le_trans ih (Nat.le_add_right _ _)
theorem bulkAll_append {H : Type} (a b : List (DataW H)) : Rows.uptoBulkAll (a ++ b) = Rows.uptoBulkAll a + Rows.uptoBulkAll b := by
  induction a with
  | nil => simp [Rows.uptoBulkAll]
  | cons x a ih =>
    simp only [List.cons_append, Rows.uptoBulkAll, ih]
    omega
theorem sumS_le {H : Type} (ops : Nat → OpJ) (D : Nat → DataW H) : ∀ (n : Nat), (∀ i, i < n → (ops i).s.size + 8 ≤ Rows.uptoBulk (D i)) → sumS ops n ≤ Rows.uptoBulkAll ((List.range n).map D)
  | 0, _ => Nat.zero_le _
  | n + 1, h => by
    have h1 := sumS_le ops D n (fun i hi => h i (by omega))
    have h2 := h n (by omega)
    rw [List.range_succ, List.map_append, bulkAll_append]
    simp only [sumS, List.map_cons, List.map_nil, Rows.uptoBulkAll]
    omega
theorem script_of2 {H : Type} {enc : TypeId × Value → H} {w : World} {spare : Nat → Bool} {held : Bool} {fuel : Nat} {ad : Option Addr} {len cap : Nat} {x : DataW H × List MemPlace}
    (h : DataW.trod enc Tryz.prog w 0 spare held fuel 22 [.slice ad len cap] = some x) (hk : Rows.uptoBulk x.1 ≤ 1048576) :
    len = 0 ∨ ∃ blk off ops, ad = some ⟨blk, off, none⟩ ∧ len ≤ 1048576 ∧ ScriptJ w blk off len ops ∧ sumS ops len ≤ 1048576 := by
  rcases open_slice Tryz.underlying22 h with ⟨hcs, _⟩ | ⟨a, len', cap', m, n, D, Pl, hcs, _, hlc, _, hmm, rfl, hx⟩
  · simp at hcs
    exact .inl hcs.2.1
  · simp at hcs
    obtain ⟨rfl, rfl, rfl⟩ := hcs
    by_cases h0 : len = 0
    · exact .inl h0
    right
    have hlm : len ≤ m := by rw [hmm]; split <;> omega
    simp only [Rows.uptoBulk] at hk
    have hlen : len ≤ Rows.uptoBulkAll ((List.range len).map D) := by
      have := length_le ((List.range len).map D) (fun d _ => one_le d)
      simpa using this
    rw [cellsOp] at hx
    obtain ⟨blk, off, spot⟩ := a
    have hsp : spot = none := by
      obtain ⟨cs', h1, _⟩ := hx 0 (by omega)
      obtain ⟨_, hl', hc⟩ := World.cells?_some h1
      have e := hc 0 (by omega)
      have hz : ((⟨blk, off, spot⟩ : Addr).add (0 * 7)).add 0 = ⟨blk, off, spot⟩ := by simp [Addr.add]
      rw [hz, List.getElem?_eq_getElem (by omega)] at e
      exact World.cell?_spot e
    subst hsp
    have hops : ∀ i, i < len → ∃ o : OpJ, (o.Ok w ∧ (∀ j, j < 7 → w.cell? ⟨blk, off + i * 7 + j, none⟩ = o.vals[j]?) ∧ o.s.size + 8 ≤ Rows.uptoBulk (D i)) := by
      intro i hi
      obtain ⟨cs', h1, h2⟩ := hx i (by omega)
      obtain ⟨o, rfl, ho, ho2, hstr, r0, r1, r5⟩ := open_op h2
      refine ⟨o, ⟨?_, ?_, hstr, r0, r1, r5⟩, ?_, ho⟩
      · have hmem : D i ∈ (List.range len).map D := List.mem_map.2 ⟨i, List.mem_range.2 hi, rfl⟩
        have := part_le hmem
        simp only at ho
        omega
      · have hmem : D i ∈ (List.range len).map D := List.mem_map.2 ⟨i, List.mem_range.2 hi, rfl⟩
        have := part_le hmem
        simp only at ho2
        omega
      · intro j hj
        obtain ⟨_, hl', hc⟩ := World.cells?_some h1
        have e := hc j hj
        rw [add_plain, add_plain] at e
        exact e
    haveI : Inhabited OpJ := ⟨⟨0, 0, 0, ⟨#[]⟩, ⟨#[]⟩, 0, none, 0, 0, []⟩⟩
    obtain ⟨ops, hops⟩ := choose_lt hops
    refine ⟨blk, off, ops, rfl, by omega, ⟨?_, fun i hi => ⟨(hops i hi).1, (hops i hi).2.1⟩⟩, ?_⟩
    · obtain ⟨cs', h1, _⟩ := hx 0 (by omega)
      have := World.cells?_block h1 (by omega)
      simpa [Addr.add] using this
    · have := sumS_le ops D len (fun i hi => (hops i hi).2.2)
      omega
end Go.Proofs.YtbkpdapagfjmmaaGreatDoor.Sc

namespace Go.Proofs.YtbkpdapagfjmmaaGreatDoor
open Go.RowKit
theorem row_of6 {B : Nat} {w : World} {E : TypeId} {v : Value} {l : List Nat} {a b : Nat} (h : w.ownsRow B E 1 v l.length (l.map ptr)) (hl : l = [a, b]) : ∃ g cap t, v = .slice (some ⟨g, 0, none⟩) 2 cap ∧ B ≤ g ∧ 2 ≤ cap ∧ Is w g E (ptr a :: ptr b :: t) := by
  subst hl
  rcases h.2 with ⟨_, h0⟩ | ⟨g, cap, cur, rfl, hB, hg, hn, hc, hs, ht⟩
  · simp at h0
  · have hI : Is w g E cur.toList := by unfold Is; simpa using hg
    refine ⟨g, cap, cur.toList.drop 2, rfl, hB, hn, ?_⟩
    have e := List.take_append_drop 2 cur.toList
    have e2 : cur.toList.take 2 = [ptr a, ptr b] := by simpa using ht
    rw [e2] at e
    rw [← e] at hI
    simpa using hI
def phi (q : Nat) : Nat := if q < 2 then 2 * q else 2 * (q - 2) + 1
theorem MkN.ep {b M gp win : Nat} {w : World} (h : MkN b M gp win 2 w) (h1 : 1 ≤ win) (h2 : win ≤ 200) (hfx : Fx w) (h0 : 0 < b) : ∃ G S, G.b0 = b ∧ G.M = M ∧ EI G S 25600 w := by
  obtain ⟨vs, ls, ob, d, p, hM, hll, hl4, hl5⟩ := h
  have e4 : ls 4 = [ob 0, ob 2] := by rw [hl4]; rfl
  have e5 : ls 5 = [ob 1, ob 3] := by rw [hl5]; rfl
  obtain ⟨gE, cE, tE, hvE, hbE, hcE, hIE⟩ := row_of6 (hM.rows 4 (by omega)) e4
  obtain ⟨gF, cF, tF, hvF, hbF, hcF, hIF⟩ := row_of6 (hM.rows 5 (by omega)) e5
  have hef : ∀ q i, q < 4 → (ef ⟨fun k => ob (2 * k), fun k => ob (2 * k + 1), fun k => Lk.En.new k win, fun k => Lk.En.new k win, fun k => d (2 * k), fun k => p (2 * k + 1), fun _ => []⟩ q i ↔ obF ob d p (phi q) i) := by
    intro q i hq
    unfold ef phi obF
    by_cases hq2 : q < 2
    · rw [if_pos hq2, if_pos hq2, if_pos (by omega)]
    · rw [if_neg hq2, if_neg hq2, if_neg (by omega)]
  have hphi : ∀ q, q < 4 → phi q < 4 := fun q hq => by unfold phi; split <;> omega
  have hinj : ∀ q r, q < 4 → r < 4 → q ≠ r → phi q ≠ phi r := fun q r hq hr hn => by unfold phi; split <;> split <;> omega
  have hmade := hM.made
  rw [hvE, hvF] at hmade
  refine ⟨⟨b, M, gE, gF, gp, cE, cF, 2, vs 0, vs 1, vs 2, vs 3⟩, ⟨fun k => ob (2 * k), fun k => ob (2 * k + 1), fun k => Lk.En.new k win, fun k => Lk.En.new k win, fun k => d (2 * k), fun k => p (2 * k + 1), fun _ => []⟩, rfl, rfl, ⟨hmade, ⟨tE, hIE⟩, ⟨tF, hIF⟩, hM.rowP, fun k hk => ?_, fun k hk => ?_, fun q r hq hr hqr i hi hx => ?_, fun q hq i hi hx => ?_, fun i hi => ?_, hfx, h0, hcE, hcF, Nat.le_refl _⟩, rfl, Lk.ES.start h1 h2⟩
  · have := hM.obj (2 * k) (by omega)
    unfold obP at this
    rw [if_pos (by omega), show 2 * k / 2 = k by omega] at this
    exact this
  · have := hM.obj (2 * k + 1) (by omega)
    unfold obP at this
    rw [if_neg (by omega), show (2 * k + 1) / 2 = k by omega] at this
    exact this
  · exact hM.sep _ _ (hphi q hq) (hphi r hr) (hinj q r hq hr hqr) i ((hef q i hq).1 hi) ((hef r i hr).1 hx)
  · obtain ⟨s1, s2, s3⟩ := hM.sr _ (hphi q hq) i ((hef q i hq).1 hi)
    rcases hx with hx | hx | hx | hx
    · exact s1 hx
    · refine s3 4 (by omega) ?_
      rw [hvE]
      have hx : i = gE := hx
      rw [hx]
      rfl
    · refine s3 5 (by omega) ?_
      rw [hvF]
      have hx : i = gF := hx
      rw [hx]
      rfl
    · exact s2 hx
  · rcases hi with (hi | hi | hi | hi) | ⟨q, hq, hi⟩
    · have hi : i = M := hi
      show b ≤ i
      rw [hi]
      exact hM.hM.1
    · have hi : i = gE := hi
      show b ≤ i
      omega
    · have hi : i = gF := hi
      show b ≤ i
      omega
    · have hi : i = gp := hi
      show b ≤ i
      rw [hi]
      exact hM.hM.2
    · exact (hM.inb _ (hphi q hq) i ((hef q i hq).1 hi)).1
theorem ends_any (G : EG) (S : EV) (N k : Nat) (kd a b c : Int) (st tt : ByteArray) (ha : Option Addr) (hl hc : Nat) (l : List ByteArray) (w : World) (hI : EI G S N w) (hk : k < 2) (hN : N ≤ 2 ^ 36) (h8 : 8 ≤ kd) (h16 : kd ≤ 16) (hst : st.size ≤ 1048576) (hIa : I64 a) (hl40 : l.length ≤ 2 ^ 40) (hSt : Strs w (.slice ha hl hc) l) (hSX : ∀ (x : Addr) (n c : Nat), Value.slice ha hl hc = .slice (some x) n c → n ≠ 0 → x.block < G.b0) :
    Calls Tryz.prog 30 #[.pointer (some ⟨G.M, 0, none⟩), .agg #[.int .i64 kd, .int .i64 a, .int .i64 b, .string st, .string tt, .int .i64 c, .slice ha hl hc], .int .i64 k] w (EPost G S (N + 1700 * (st.size + 8)) w) := by
  have later : ∀ M', M' ≤ N + 1700 * (st.size + 8) → ∀ r W', EPost G S M' w r W' → EPost G S (N + 1700 * (st.size + 8)) w r W' := by
    rintro M' hM r W' ⟨hr, S', h1, h2, h3⟩
    exact ⟨hr, S', h1, h2, h3.later hM⟩
  have hIa2 : -9223372036854775808 ≤ a ∧ a ≤ 9223372036854775807 := hIa
  obtain ⟨hia1, hia2⟩ := hIa2
  by_cases h9 : 9 ≤ kd ∧ kd ≤ 13
  · exact (ends_says G S N k kd a b c st tt ha hl hc w hI hk hN h9.1 h9.2 hIa l hl40 hSt hSX).mono (later (N + 5000) (by omega))
  · have hkd : kd = 8 ∨ kd = 14 ∨ kd = 15 ∨ kd = 16 := by omega
    rcases hkd with rfl | rfl | rfl | rfl
    · by_cases hb : newBad a c
      · exact (ends_newBad G S N k a b c st tt ha hl hc w hI hk hN hb).mono (later (N + 12800) (by omega))
      · obtain ⟨s, win, h1, h2, h3, h4, h5⟩ := newBad_not hb
        exact (ends_newOk G S N k a b c st tt ha hl hc w hI hk hN s win h1 h2 h3 h4 h5).mono (later (N + 12800) (by omega))
    · exact (ends_drain G S N k a b c st tt ha hl hc w hI hk hN hia2).mono (later (N) (by omega))
    · exact (ends_feed G S N k a b c st tt ha hl hc w hI hk hN (by omega)).mono (later (N + (2 * st.size + 10)) (by omega))
    · exact (ends_move G S N k a b c st tt ha hl hc w hI hk hN hia1 hia2 (1 - k) (by omega) (by omega)).mono (later (N + 10) (by omega))
theorem strs_lt {w : World} {v : Value} {l : List ByteArray} (h : Strs w v l) (x : Addr) (n c : Nat) (e : v = .slice (some x) n c) (hn : n ≠ 0) : x.block < w.heap.size := by
  rcases h with ⟨rfl, a, c', rfl⟩ | ⟨g, o, cap, rfl, h2, h3⟩
  · cases e; exact absurd rfl hn
  · cases e; exact h2
theorem and_one6 (b : Int) : ∃ k : Nat, k < 2 ∧ bits .and .i64 b 1 = (k : Int) := by
  have h : ∀ x : BitVec 64, (x &&& 1#64).toNat = 0 ∨ (x &&& 1#64).toNat = 1 := by
    intro x
    rw [BitVec.toNat_and]
    have : (1#64).toNat = 2 ^ 1 - 1 := rfl
    rw [this, Nat.and_two_pow_sub_one_eq_mod]
    omega
  have e : bits .and .i64 b 1 = IntKind.i64.wrap (((BitVec.ofInt 64 b) &&& 1#64).toNat : Int) := rfl
  rw [e]
  rcases h (BitVec.ofInt 64 b) with h | h <;> rw [h]
  · exact ⟨0, by omega, rfl⟩
  · exact ⟨1, by omega, rfl⟩
theorem upTo6_some (bd win : Nat) (hbd : bd ≤ 200) (hw1 : 1 ≤ win) (hw2 : win ≤ 200) (w : World) (blk off len cap : Nat) (ops : Nat → Sc.OpJ) (hfx : Fx w) (hS : Sc.ScriptJ w blk off len ops) (hsum : Sc.sumS ops len ≤ 1048576) :
    Calls Tryz.prog 10 #[.int .i64 bd, .int .i64 win, .slice (some ⟨blk, off, none⟩) len cap, .int .i64 8, .int .i64 16] w fun e w' => e = .returned (.bool true) ∧ Below w.heap.size w w' := by
  have h0 := hfx.1
  have h8l := Sc.sumS_eight ops len
  have hlen : len ≤ 131072 := by omega
  have HFX := hide hfx
  have HSM := hide hsum
  clear hfx hsum
  go_enter Tryz.func10, Tryz.ntmps10
  go_wp2_with fail
  refine (made6 bd win hbd hw1 hw2 w h0).mono ?_
  rintro e w1 ⟨rfl, hmk, hb1⟩
  obtain ⟨G, S0, hGb, hGM, hI0⟩ := hmk.ep hw1 hw2 ((uh HFX).below hb1 h0) h0
  unfold ptr
  rw [← hGM]
  have HG := hide hGb
  have HR0 : Hid (EI G S0 (25600 + 1700 * Sc.sumS ops 0) w1 ∧ Below w.heap.size w w1) := ⟨hI0, hb1⟩
  clear hmk hb1 hI0 hGM hGb
  go_wp2_with fail
  go_loopw [13] (fun k wr => ∃ (i : Nat) (S : EV), i ≤ len ∧ k = .int .i64 i ∧ Hid (EI G S (25600 + 1700 * Sc.sumS ops i) wr ∧ Below w.heap.size w wr)) (fun k _ => len - (intOf k).toNat)
  case atStart => exact ⟨0, S0, Nat.zero_le _, rfl, HR0⟩
  case round =>
    clear HR0
    obtain ⟨i, S, hi, rfl, HR⟩ := hrel
    by_cases hlt : i < len
    · have hlt' : (i : Int) < len := by omega
      have hi60 : (i : Int) < 1152921504606846976 := by omega
      obtain ⟨hI, hbel⟩ := uh HR
      obtain ⟨hok, hcs⟩ := hS.2 i hlt
      have hcell : ∀ j, j < 7 → wr.cell? ⟨blk, off + i * 7 + j, none⟩ = (ops i).vals[j]? := fun j hj => (hbel.cell (p := ⟨blk, off + i * 7 + j, none⟩) hS.1).trans (hcs j hj)
      have hsi : Sc.sumS ops (i + 1) = Sc.sumS ops i + ((ops i).s.size + 8) := rfl
      have hsl : Sc.sumS ops (i + 1) ≤ 1048576 := Nat.le_trans (Sc.sumS_mono ops (by omega)) (uh HSM)
      have HNX : Hid (Sc.sumS ops (i + 1) = Sc.sumS ops i + ((ops i).s.size + 8) ∧ Sc.sumS ops (i + 1) ≤ 1048576) := ⟨hsi, hsl⟩
      generalize ops i = o at *
      obtain ⟨kd, a, b, s, tt, n, ha, hl, hc, l⟩ := o
      have c0 := hcell 0 (by omega)
      have c1 := hcell 1 (by omega)
      have c2 := hcell 2 (by omega)
      have c3 := hcell 3 (by omega)
      have c4 := hcell 4 (by omega)
      have c5 := hcell 5 (by omega)
      have c6 := hcell 6 (by omega)
      simp only [Sc.OpJ.vals, List.getElem?_cons_zero, List.getElem?_cons_succ, Nat.add_zero] at c0 c1 c2 c3 c4 c5 c6
      have hblk : blk < wr.heap.size := Nat.lt_of_lt_of_le hS.1 hbel.size
      have hbw := hbel.alloc hbel.size (.cells #[.int .i64 kd, .int .i64 a, .int .i64 b, .string s, .string tt, .int .i64 n, .slice ha hl hc] 33)
      have hIW : EI G S (25600 + 1700 * Sc.sumS ops i) (wr.alloc (.cells #[.int .i64 kd, .int .i64 a, .int .i64 b, .string s, .string tt, .int .i64 n, .slice ha hl hc] 33)) := ⟨hI.ep.below ((Below.refl wr.heap.size wr).alloc (Nat.le_refl _) _), hI.eq, hI.es⟩
      have hskip : Hid (EI G S (25600 + 1700 * Sc.sumS ops (i + 1)) (wr.alloc (.cells #[.int .i64 kd, .int .i64 a, .int .i64 b, .string s, .string tt, .int .i64 n, .slice ha hl hc] 33)) ∧ Below w.heap.size w (wr.alloc (.cells #[.int .i64 kd, .int .i64 a, .int .i64 b, .string s, .string tt, .int .i64 n, .slice ha hl hc] 33))) := ⟨⟨hIW.ep, hIW.eq, hIW.es.later (by have := (uh HNX).1; omega)⟩, hbw⟩
      have HOK := hide hok
      have HIW := hide (⟨hIW, hbw⟩ : _ ∧ _)
      clear hcell hcs hok hI hbel hsi hsl hIW hbw HR
      by_cases h2 : kd < 8
      · clear HIW HOK
        go_wp2_with fail
        go_roundw
        case rel => exact ⟨i + 1, S, by omega, by go_num, hskip⟩
        case measure => simp [intOf]; omega
      by_cases h3 : 16 < kd
      · clear HIW HOK
        go_wp2_with fail
        go_roundw
        case rel => exact ⟨i + 1, S, by omega, by go_num, hskip⟩
        case measure => simp [intOf]; omega
      have h8 : 8 ≤ kd := by omega
      have h16 : kd ≤ 16 := by omega
      have n1 : (kd == 1) = false := by rw [beq_eq_false_iff_ne]; omega
      have n2 : (kd == 2) = false := by rw [beq_eq_false_iff_ne]; omega
      have n3 : (kd == 3) = false := by rw [beq_eq_false_iff_ne]; omega
      have n4 : (4 : Int) ≤ kd := by omega
      have n7 : ¬ kd ≤ 7 := by omega
      obtain ⟨k, hk, hkb⟩ := and_one6 b
      have HC := hide (ends_any G S (25600 + 1700 * Sc.sumS ops i) k kd a b n s tt ha hl hc l _ (uh HIW).1 hk (by have h1 := (uh HNX).1; have h2 := (uh HNX).2; omega) h8 h16 (uh HOK).s (uh HOK).a (by have := (uh HOK).h; simp only at this; omega) ((uh HOK).strs.below (uh HIW).2 (Nat.le_refl _)) (fun x n' c' hx hn' => by rw [uh HG]; exact strs_lt (uh HOK).strs x n' c' hx hn'))
      clear hskip
      go_wp2_with fail
      refine (uh HC).mono ?_
      rintro e w2 ⟨rfl, S2, hst2, hq2, hes2⟩
      have HR2 : Hid (EI G S2 (25600 + 1700 * Sc.sumS ops (i + 1)) w2 ∧ Below w.heap.size w w2) := by
        obtain ⟨hIW, hbw⟩ := uh HIW
        refine ⟨⟨hst2.1, hq2, hes2.later (by have := (uh HNX).1; omega)⟩, ?_⟩
        have := hst2.bel hIW.ep (w0 := w) (by rw [uh HG]; exact hbw)
        rw [uh HG] at this
        exact this
      clear hst2 hq2 hes2 HC HIW HOK
      go_wp2_with fail
      go_roundw
      case rel => exact ⟨i + 1, S2, by omega, by go_num, HR2⟩
      case measure => simp [intOf]; omega
    · have hlt' : ¬ (i : Int) < len := by omega
      go_wp2_with fail
      go_ret
      exact ⟨rfl, (uh HR).2⟩
theorem upTo6_none (bd win : Nat) (hbd : bd ≤ 200) (hw1 : 1 ≤ win) (hw2 : win ≤ 200) (w : World) (h0 : 0 < w.heap.size) (ad : Option Addr) (cap : Nat) :
    Calls Tryz.prog 10 #[.int .i64 bd, .int .i64 win, .slice ad 0 cap, .int .i64 8, .int .i64 16] w fun e w' => e = .returned (.bool true) ∧ Below w.heap.size w w' := by
  go_enter Tryz.func10, Tryz.ntmps10
  go_wp2_with fail
  refine (made6 bd win hbd hw1 hw2 w h0).mono ?_
  rintro e w1 ⟨rfl, _, hb1⟩
  unfold ptr
  go_wp2_with fail
  refine wp_loop_rounds 1 ?_
  rw [rounds_succ]
  go_wp2_with fail
  go_ret
  exact ⟨rfl, hb1⟩
theorem bounded6 (c : Int) (w : World) : Calls Tryz.prog 11 #[.int .i64 c, .int .i64 199] w fun r w' => (∃ n : Nat, n ≤ 199 ∧ r = .returned (.int .i64 n)) ∧ w' = w := by
  have b1 : c.tmod 200 < 200 := Int.tmod_lt_of_pos _ (by omega)
  have b2 : -200 < c.tmod 200 := by
    have e1 := Int.neg_tmod c 200
    have e2 := Int.tmod_lt_of_pos (-c) (show (0 : Int) < 200 by omega)
    omega
  by_cases h0 : c.tmod 200 < 0
  · go_enter Tryz.func11, Tryz.ntmps11
    go_wp2
    go_ret
    exact ⟨⟨(c.tmod 200 + 200).toNat, by omega, ret_int (by omega)⟩, rfl⟩
  · go_enter Tryz.func11, Tryz.ntmps11
    go_wp2
    go_ret
    exact ⟨⟨(c.tmod 200).toNat, by omega, ret_int (by omega)⟩, rfl⟩
theorem ends_some (c : Int) (w : World) (blk off len cap : Nat) (ops : Nat → Sc.OpJ) (hfx : Fx w) (hS : Sc.ScriptJ w blk off len ops) (hsum : Sc.sumS ops len ≤ 1048576) :
    Calls Tryz.prog 5 #[.int .i64 c, .slice (some ⟨blk, off, none⟩) len cap] w fun e w' => e = .returned (.bool true) ∧ Below w.heap.size w w' := by
  have HC := hide (fun (n : Nat) (hn : n ≤ 199) (z : Int) (hz : z = ((1 + n : Nat) : Int)) => (by subst hz; exact upTo6_some 0 (1 + n) (by omega) (by omega) (by omega) w blk off len cap ops hfx hS hsum : Calls Tryz.prog 10 #[.int .i64 0, .int .i64 z, .slice (some ⟨blk, off, none⟩) len cap, .int .i64 8, .int .i64 16] w fun e w' => e = .returned (.bool true) ∧ Below w.heap.size w w'))
  clear hfx hS hsum
  go_enter Tryz.func5, Tryz.ntmps5
  go_wp2_with fail
  refine (bounded6 c _).mono ?_
  rintro e w0 ⟨⟨n, hn, rfl⟩, rfl⟩
  have hn' : (n : Int) ≤ 199 := by omega
  go_wp2_with fail
  refine (uh HC n hn _ (by omega)).mono ?_
  rintro e w1 ⟨rfl, hb1⟩
  go_wp2_with fail
  go_ret
  exact ⟨rfl, hb1⟩
theorem ends_none (c : Int) (w : World) (h0 : 0 < w.heap.size) (ad : Option Addr) (cap : Nat) :
    Calls Tryz.prog 5 #[.int .i64 c, .slice ad 0 cap] w fun e w' => e = .returned (.bool true) ∧ Below w.heap.size w w' := by
  have HC := hide (fun (n : Nat) (hn : n ≤ 199) (z : Int) (hz : z = ((1 + n : Nat) : Int)) (w : World) (h0 : 0 < w.heap.size) => (by subst hz; exact upTo6_none 0 (1 + n) (by omega) (by omega) (by omega) w h0 ad cap : Calls Tryz.prog 10 #[.int .i64 0, .int .i64 z, .slice ad 0 cap, .int .i64 8, .int .i64 16] w fun e w' => e = .returned (.bool true) ∧ Below w.heap.size w w'))
  go_enter Tryz.func5, Tryz.ntmps5
  go_wp2_with fail
  refine (bounded6 c _).mono ?_
  rintro e w0 ⟨⟨n, hn, rfl⟩, rfl⟩
  have hn' : (n : Int) ≤ 199 := by omega
  go_wp2_with fail
  refine (uh HC n hn _ (by omega) _ h0).mono ?_
  rintro e w1 ⟨rfl, hb1⟩
  go_wp2_with fail
  go_ret
  exact ⟨rfl, hb1⟩
end Go.Proofs.YtbkpdapagfjmmaaGreatDoor
