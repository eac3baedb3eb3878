/-
  The statement Tables: its card.
-/
import Derived.Test.YtbkpdapagfjmmaaGreatDoorCards
import Derived.Test.YtbkpdapagfjmmaaGreatDoorTie
import Derived.Test.YtbkpdapagfjmmaaGreatDoorZ2
import Derived.Test.YtbkpdapagfjmmaaGreatDoorQA
import Derived.SliceStrings
namespace Go.Proofs.YtbkpdapagfjmmaaGreatDoor.tablesF
open Go.ChangeShapes Go.WideShapes Go.ChangeAt Go.RowKit Go.Deep
open Go.ChangeMaps (open_string shut_string)
set_option linter.unusedVariables false

theorem own : ownKnob Tryz.prog.godebug = none := by kernel_rfl
theorem laidOut : laidOutB Tryz.prog = true := by kernel_rfl
theorem bytesOp : Tryz.prog.bytesOf 33 = 88 := by kernel_rfl
theorem cellsOp : Tryz.prog.cellsOf 33 = 7 := by kernel_rfl
theorem cells3 : Tryz.prog.cellsOf 3 = 1 := by kernel_rfl
theorem cellsSl : Tryz.prog.cellsOf 31 = 1 := by kernel_rfl

set_option maxRecDepth 100000 in
theorem open_op {H : Type} {enc : TypeId × Value → H} {w : World} {spare : Nat → Bool} {held : Bool} {fuel : Nat} {cs : List Value} {x : DataW H × List MemPlace}
    (h : DataW.trod enc Tryz.prog w 0 spare held fuel 33 cs = some x) (hr : Reach4 x.1 33) : ∃ o : OpH, cs = o.vals ∧ o.s.size ≤ 2 ^ 47 ∧ o.h.length ≤ 2 ^ 43 ∧ Strs w (.slice o.ha o.hl o.hc) o.h := by
  obtain ⟨xs, n, _, rfl, hl, hlen, hf⟩ := DataW.trod_struct Tryz.underlying33 h
  rw [cellsOp] at hl
  match cs, hl with
  | [c0, c1, c2, c3, c4, c5, c6], _ =>
  match xs, hlen with
  | [y0, y1, y2, y3, y4, y5, y6], _ =>
  have f0 : DataW.trod enc Tryz.prog w 0 spare held n 3 (([c0, c1, c2, c3, c4, c5, c6].drop 0).take (Tryz.prog.cellsOf 3)) = some y0 := hf 0 _ rfl
  rw [cells3] at f0
  have f1 : DataW.trod enc Tryz.prog w 0 spare held n 3 (([c0, c1, c2, c3, c4, c5, c6].drop 1).take (Tryz.prog.cellsOf 3)) = some y1 := hf 1 _ rfl
  rw [cells3] at f1
  have f2 : DataW.trod enc Tryz.prog w 0 spare held n 3 (([c0, c1, c2, c3, c4, c5, c6].drop 2).take (Tryz.prog.cellsOf 3)) = some y2 := hf 2 _ rfl
  rw [cells3] at f2
  have f3 : DataW.trod enc Tryz.prog w 0 spare held n 9 (([c0, c1, c2, c3, c4, c5, c6].drop 3).take (Tryz.prog.cellsOf 9)) = some y3 := hf 3 _ rfl
  rw [cellsStr] at f3
  have f4 : DataW.trod enc Tryz.prog w 0 spare held n 9 (([c0, c1, c2, c3, c4, c5, c6].drop 4).take (Tryz.prog.cellsOf 9)) = some y4 := hf 4 _ rfl
  rw [cellsStr] at f4
  have f5 : DataW.trod enc Tryz.prog w 0 spare held n 3 (([c0, c1, c2, c3, c4, c5, c6].drop 5).take (Tryz.prog.cellsOf 3)) = some y5 := hf 5 _ rfl
  rw [cells3] at f5
  have f6 : DataW.trod enc Tryz.prog w 0 spare held n 31 (([c0, c1, c2, c3, c4, c5, c6].drop 6).take (Tryz.prog.cellsOf 31)) = some y6 := hf 6 _ rfl
  rw [cellsSl] at f6
  simp only [List.drop_zero, List.drop_succ_cons, List.take_succ_cons, List.take_zero] at f0 f1 f2 f3 f4 f5 f6
  have r6 : Reach4 y6.1 31 := fun n hn => hr n (by simp only [DataW.weights, Tryz.underlying33]; exact DataW.weights_mem_each (j := 6) rfl rfl n hn)
  have r3 : Reach4 y3.1 9 := fun n hn => hr n (by simp only [DataW.weights, Tryz.underlying33]; exact DataW.weights_mem_each (j := 3) rfl rfl n hn)
  obtain ⟨kd, e0, rfl, _⟩ := DataW.trod_int Tryz.underlying3 f0
  obtain ⟨a, e1, rfl, _⟩ := DataW.trod_int Tryz.underlying3 f1
  obtain ⟨b, e2, rfl, _⟩ := DataW.trod_int Tryz.underlying3 f2
  obtain ⟨s, e3, rfl, _⟩ := DataW.trod_string Tryz.underlying9 f3
  obtain ⟨t, e4, rfl, _⟩ := DataW.trod_string Tryz.underlying9 f4
  obtain ⟨m, e5, rfl, _⟩ := DataW.trod_int Tryz.underlying3 f5
  obtain ⟨sv, ls, e6, hst6, hl6⟩ := strs_full f6 r6
  have hsl : ∃ ha hl hc, sv = Value.slice ha hl hc := by
    rcases hst6 with ⟨_, a, c, rfl⟩ | ⟨g, o, cap, rfl, _⟩
    · exact ⟨_, _, _, rfl⟩
    · exact ⟨_, _, _, rfl⟩
  obtain ⟨ha, hl, hc, rfl⟩ := hsl
  simp only [List.cons.injEq, and_true] at e0 e1 e2 e3 e4 e5 e6
  subst e0 e1 e2 e3 e4 e5 e6
  refine ⟨⟨kd, a, b, s, t, m, ha, hl, hc, ls⟩, rfl, ?_, hl6, hst6⟩
  have := r3 s.data.toList.length (by simp [DataW.weights])
  rw [← size_list, reach4] at this
  simp only
  omega

/-- A script that was read as data, and is small: what the walk wants of it. -/
theorem script_of {H : Type} {enc : TypeId × Value → H} {w : World} {spare : Nat → Bool} {held : Bool} {fuel : Nat} {ad : Option Addr} {len cap : Nat} {x : DataW H × List MemPlace}
    (h : DataW.trod enc Tryz.prog w 0 spare held fuel 22 [.slice ad len cap] = some x) (hr : Reach4 x.1 22) :
    len = 0 ∨ ∃ blk off ops, ad = some ⟨blk, off, none⟩ ∧ len ≤ 2 ^ 47 ∧ ScriptH w blk off len ops := by
  rcases open_slice Tryz.underlying22 h with ⟨hcs, _⟩ | ⟨a, len', cap', m, n, D, Pl, hcs, _, hlc, _, hmm, rfl, hx⟩
  · simp at hcs
    exact .inl hcs.2.1
  · simp at hcs
    obtain ⟨rfl, rfl, rfl⟩ := hcs
    by_cases h0 : len = 0
    · exact .inl h0
    right
    have hlm : len ≤ m := by rw [hmm]; split <;> omega
    have hlen := hr.len Tryz.underlying22
    rw [bytesOp, reach4] at hlen
    simp only [List.length_map, List.length_range] at hlen
    rw [cellsOp] at hx
    obtain ⟨blk, off, spot⟩ := a
    have hsp : spot = none := by
      obtain ⟨cs', h1, _⟩ := hx 0 (by omega)
      obtain ⟨_, hl', hc⟩ := World.cells?_some h1
      have e := hc 0 (by omega)
      have hz : ((⟨blk, off, spot⟩ : Addr).add (0 * 7)).add 0 = ⟨blk, off, spot⟩ := by simp [Addr.add]
      rw [hz, List.getElem?_eq_getElem (by omega)] at e
      exact World.cell?_spot e
    subst hsp
    have hops : ∀ i, i < len → ∃ o : OpH, (o.s.size ≤ 2 ^ 47 ∧ o.h.length ≤ 2 ^ 43 ∧ Strs w (.slice o.ha o.hl o.hc) o.h ∧ ∀ j, j < 7 → w.cell? ⟨blk, off + i * 7 + j, none⟩ = o.vals[j]?) := by
      intro i hi
      obtain ⟨cs', h1, h2⟩ := hx i (by omega)
      have hmem : D i ∈ (List.range len).map D := List.mem_map.2 ⟨i, List.mem_range.2 hi, rfl⟩
      obtain ⟨o, rfl, ho, ho2, hstr⟩ := open_op h2 (hr.elem Tryz.underlying22 hmem)
      refine ⟨o, ho, ho2, hstr, ?_⟩
      · intro j hj
        obtain ⟨_, hl', hc⟩ := World.cells?_some h1
        have e := hc j hj
        rw [add_plain4, add_plain4] at e
        exact e
    haveI : Inhabited OpH := ⟨⟨0, 0, 0, ⟨#[]⟩, ⟨#[]⟩, 0, none, 0, 0, []⟩⟩
    obtain ⟨ops, hops⟩ := choose_lt hops
    refine ⟨blk, off, ops, rfl, by omega, ?_, hops⟩
    obtain ⟨cs', h1, _⟩ := hx 0 (by omega)
    have := World.cells?_block h1 (by omega)
    simpa [Addr.add] using this

set_option maxRecDepth 100000 in
theorem contract (H : Type) (enc : TypeId × Value → H) (W : World) (base : Nat) (args : Array Value) (ds gs : List (DataW H)) (before : List MemPlace)
    (hval0 : ∀ (j : Nat) t v, Tryz.f4.params[j]? = some t → args[j]? = some v → Value.okWide Tryz.prog W .any base t v)
    (hW : DataW.Whole enc Tryz.prog Tryz.f4.params.toList Rows.tablesSpec.vars false W args.toList ds gs before) (hsz : (DataW.weightsEach Tryz.prog (Tryz.f4.params.toList ++ (OpenSpec.ofChange Rows.tablesSpec).bare.plain.varTypes Tryz.prog) (ds ++ gs)).all (· ≤ reachBytes) = true) (hfx : Fx W) :
    Calls Tryz.prog 4 args W fun e W' => ∃ v, e = .returned v ∧ Rows.tablesSpec.post enc Tryz.prog Tryz.f4 false true false false W args v W' := by
  have hval : ∀ (j : Nat) t v, Tryz.f4.params[j]? = some t → args[j]? = some v → Value.okWide Tryz.prog W .any base t v := hval0
  have hW' := hW
  obtain ⟨p, q, hA0, hV, rfl, hfz, hnd⟩ := hW
  have hA : DataW.TrodAll enc Tryz.prog W 0 (fun _ => true) true Tryz.f4.params.toList args.toList ds p := hA0
  rw [Tryz.params4] at hA hval
  obtain ⟨v0, vs0, d0, ds0, p0, q0, hargs, rfl, rfl, h0, r0⟩ := trodAll_cons hA
  obtain ⟨v1, vs1, d1, ds1, p1, q1, rfl, rfl, rfl, h1, r1⟩ := trodAll_cons r0
  obtain ⟨rfl, rfl, rfl⟩ := trodAll_nil r1
  obtain rfl : args = #[v0, v1] := by cases args; simp_all
  obtain ⟨rfl, rfl⟩ := trodVars_none hV
  obtain ⟨c, rfl, rfl, rfl, w0⟩ := open_int Tryz.underlying3 (hval 0 3 v0 rfl rfl) h0
  obtain ⟨a1, len1, cap1, rfl⟩ := okWide_slice Tryz.underlying22 (hval 1 22 v1 rfl rfl)
  have k1 := h1
  have lt1 : ∀ x ∈ p1, x.block < W.heap.size := by obtain ⟨m, hm⟩ := k1; exact DataW.trod_lt m _ _ _ hm
  clear hA0 hval0
  rw [Tryz.params4] at hsz
  have hr := reach_each hsz (j := 1) (t := 22) (d := d1) rfl rfl
  obtain ⟨fuel, hf⟩ := h1
  have hs := script_of (by simpa [Value.cells] using hf) hr
  have hcalls : Calls Tryz.prog 4 #[.int .i64 c, .slice a1 len1 cap1] W fun e w' => e = .returned (.bool true) ∧ Below W.heap.size W w' := by
    rcases hs with rfl | ⟨blk, off, ops, rfl, hl, hS⟩
    · exact tables_none c W a1 cap1
    · exact tables_some c W blk off len1 cap1 ops hl hfx hS
  refine hcalls.mono fun e W' ⟨he, bel⟩ => ?_
  subst he
  exact ⟨_, rfl, _, _, _, [], _, [], hW', trodAll_mk1 (shut_bool Tryz.underlying4 _), (trodAll_cons_mk (shut_int Tryz.underlying3 w0) (trodAll_cons_mk (Below.trod laidOut (by kernel_rfl) (of_decide_eq_true (by kernel_rfl)) k1 bel lt1) trodAll_mk0)), rfl, bel.frame _, fun h => by cases h⟩

theorem laid_met (os : Os) : laidMet Tryz.prog Rows.tablesRow.laid (({ World.holding Tryz.prog os ⟨#[], #[], []⟩ with heap := (World.holding Tryz.prog os ⟨#[], #[], []⟩).heap.modify 0 fun | .cells _ t frozen => .cells #[.string ⟨#[116, 111]⟩, .string ⟨#[]⟩, .string ⟨#[107, 105, 110, 100]⟩, .string ⟨#[116, 101, 120, 116]⟩, .string ⟨#[107, 105, 110, 100]⟩, .string ⟨#[99, 97, 108, 108]⟩, .string ⟨#[117, 114, 103, 101, 110, 116]⟩, .string ⟨#[110, 111]⟩] t frozen | o => o } : World).forCall (fun _ _ => 0) ⟨#[], #[.int .i64 0, .slice none 0 0], []⟩).memory :=
  laidMet_of_run' 8 (by kernel_rfl) (by kernel_rfl)
theorem reads (os : Os) {H : Type} (enc : TypeId × Value → H) : ∃ places, DataW.whole enc Tryz.prog (({ World.holding Tryz.prog os ⟨#[], #[], []⟩ with heap := (World.holding Tryz.prog os ⟨#[], #[], []⟩).heap.modify 0 fun | .cells _ t frozen => .cells #[.string ⟨#[116, 111]⟩, .string ⟨#[]⟩, .string ⟨#[107, 105, 110, 100]⟩, .string ⟨#[116, 101, 120, 116]⟩, .string ⟨#[107, 105, 110, 100]⟩, .string ⟨#[99, 97, 108, 108]⟩, .string ⟨#[117, 114, 103, 101, 110, 116]⟩, .string ⟨#[110, 111]⟩] t frozen | o => o } : World).forCall (fun _ _ => 0) ⟨#[], #[.int .i64 0, .slice none 0 0], []⟩).memory Tryz.f4.params.toList Rows.tablesSpec.vars false #[Value.int .i64 0, .slice none 0 0].toList 8 = some ([.lit (.int .i64 0), .nil], [], places) :=
  ⟨[], by kernel_rfl⟩

set_option maxRecDepth 100000 in
theorem lifted (os : Os) (started : os.Started) (H : Type) (enc : TypeId × Value → H) (F : Stop.Interp) :
    ReturnsInHanded {} Tryz.checked os 4 .any ((OpenSpec.ofChange Rows.tablesSpec).preRow enc Tryz.prog Tryz.f4 Rows.tablesRow.domain false Rows.tablesRow.laid) (((OpenSpec.ofChange Rows.tablesSpec).at F).post enc Tryz.prog Tryz.f4 false true false false) := by
  obtain ⟨places, hx⟩ := reads os enc
  refine returnsInHanded_of_row (C := Tryz.checked) (s := OpenSpec.ofChange Rows.tablesSpec) own started (by kernel_rfl) Tryz.func4
    (witness_row_at (enc := enc) (C := Tryz.checked) false ({ World.holding Tryz.prog os ⟨#[], #[], []⟩ with heap := (World.holding Tryz.prog os ⟨#[], #[], []⟩).heap.modify 0 fun | .cells _ t frozen => .cells #[.string ⟨#[116, 111]⟩, .string ⟨#[]⟩, .string ⟨#[107, 105, 110, 100]⟩, .string ⟨#[116, 101, 120, 116]⟩, .string ⟨#[107, 105, 110, 100]⟩, .string ⟨#[99, 97, 108, 108]⟩, .string ⟨#[117, 114, 103, 101, 110, 116]⟩, .string ⟨#[110, 111]⟩] t frozen | o => o } : World) #[.int .i64 0, .slice none 0 0] rfl (by kernel_rfl) (by kernel_rfl) (by kernel_rfl)
      (OpenSpec.preRow_of_cond 8 hx (by kernel_rfl) (fun k hk => by cases hk) (by kernel_rfl) (laid_met os))) ?_
  intro W base args ds gs before hval hW _ _ hsz hL _ _
  exact contract H enc W base args ds gs before hval hW hsz (fx_of_laid hL)

theorem said : Rows.TablesSaid :=
  OpenClaim.holds_of_cond 4 Tryz.f4 rfl rfl rfl rfl rfl rfl rfl ⟨rfl, rfl, rfl, rfl, rfl⟩ rfl rfl rfl rfl rfl (by kernel_rfl) Tryz.func4 (by kernel_rfl)
    (of_decide_eq_true (by kernel_rfl)) (by unfold Func.isWrapper; first | (rw [if_pos (by decide +kernel)]; kernel_rfl) | (rw [if_neg (by decide +kernel)]; exact ⟨rfl, rfl⟩))
    (fun os started H enc _ F => by rw [OpenClaim.pre_eq_preRow]; exact lifted os started H enc F)

theorem plain (f : FuncId) (fn : Func) (hf : Tryz.pinned.checked.prog.funcNamed "link/linklaw.Tables" = some f) (hfn : Tryz.pinned.checked.prog.funcs[f]? = some fn) :
    false = Tryz.pinned.checked.prog.looks [] ∧ ∀ (j : Nat) t, fn.params[j]? = some t → Tryz.pinned.checked.prog.wantsStandIn t = false := by
  obtain rfl : f = 4 := Option.some.inj ((show Tryz.prog.funcNamed "link/linklaw.Tables" = some 4 by kernel_rfl).symm.trans hf) |>.symm
  obtain rfl : fn = Tryz.f4 := (Option.some.inj (Tryz.func4.symm.trans hfn)).symm
  refine ⟨by kernel_rfl, fun j t ht => ?_⟩
  rw [Tryz.params4] at ht
  have hm : t ∈ [3, 22] := by simpa using Array.mem_of_getElem? ht
  have hall : ([3, 22].all fun u => !Tryz.prog.wantsStandIn u) = true := by kernel_rfl
  exact (show Tryz.prog.wantsStandIn t = false by simpa using List.all_eq_true.1 hall t hm)

theorem card : Rows.TablesCardSaid :=
  Claim7.holds_tied_plain_at .later [] _ _ _ _ said (fun _ h => by cases h) (by kernel_rfl) (fun _ h => by cases h) tables_row_tie rfl ⟨rfl, rfl⟩ (by kernel_rfl) rfl plain (by kernel_rfl)
end Go.Proofs.YtbkpdapagfjmmaaGreatDoor.tablesF
namespace Go.Proofs.YtbkpdapagfjmmaaGreatDoor
theorem tables_holds : Rows.TablesCardSaid := tablesF.card
end Go.Proofs.YtbkpdapagfjmmaaGreatDoor
