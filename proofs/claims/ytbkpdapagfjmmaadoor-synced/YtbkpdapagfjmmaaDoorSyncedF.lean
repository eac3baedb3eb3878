/-
  The statement Synced: its card.
-/
import Derived.Test.YtbkpdapagfjmmaaDoorCards
import Derived.Test.YtbkpdapagfjmmaaDoorTie
import Derived.Test.YtbkpdapagfjmmaaDoorZ2
import Derived.Test.YtbkpdapagfjmmaaDoorY2
import Derived.SliceStrings
namespace Go.Proofs.YtbkpdapagfjmmaaDoor.syncedF
open Go.ChangeShapes Go.WideShapes Go.ChangeAt Go.RowKit Go.Deep
open Go.ChangeMaps (open_string shut_string)
set_option linter.unusedVariables false

theorem own : ownKnob Tryd.prog.godebug = none := by kernel_rfl
theorem laidOut : laidOutB Tryd.prog = true := by kernel_rfl
theorem bytesSl : Tryd.prog.bytesOf 31 = 24 := by kernel_rfl
theorem cellsSl : Tryd.prog.cellsOf 31 = 1 := by kernel_rfl

theorem lists_of {H : Type} {enc : TypeId × Value → H} {w : World} {spare : Nat → Bool} {held : Bool} {fuel : Nat} {ad : Option Addr} {len cap : Nat} {x : DataW H × List MemPlace}
    (h : DataW.trod enc Tryd.prog w 0 spare held fuel 22 [.slice ad len cap] = some x) (hr : Reach4 x.1 22) :
    len = 0 ∨ ∃ blk off LL, ad = some ⟨blk, off, none⟩ ∧ len = LL.length ∧ LL.length ≤ 2 ^ 47 ∧ Lists w blk off LL := by
  rcases open_slice Tryd.underlying22 h with ⟨hcs, _⟩ | ⟨a, len', cap', m, n, D, Pl, hcs, _, hlc, _, hmm, rfl, hx⟩
  · simp at hcs
    exact .inl hcs.2.1
  · simp at hcs
    obtain ⟨rfl, rfl, rfl⟩ := hcs
    by_cases h0 : len = 0
    · exact .inl h0
    right
    have hlm : len ≤ m := by rw [hmm]; split <;> omega
    have hlen := hr.len Tryd.underlying22
    rw [bytesSl, reach4] at hlen
    simp only [List.length_map, List.length_range] at hlen
    rw [cellsSl] at hx
    obtain ⟨blk, off, spot⟩ := a
    have hall : ∀ i, i < len → ∃ ls : List ByteArray, (ls.length ≤ 2 ^ 43 ∧ ∃ sv, w.cell? ((⟨blk, off, spot⟩ : Addr).add i) = some sv ∧ Strs w sv ls) := by
      intro i hi
      obtain ⟨cs', h1, h2⟩ := hx i (by omega)
      have hmem : D i ∈ (List.range len).map D := List.mem_map.2 ⟨i, List.mem_range.2 hi, rfl⟩
      obtain ⟨sv, ls, rfl, hs, hl⟩ := strs_full h2 (hr.elem Tryd.underlying22 hmem)
      refine ⟨ls, hl, sv, ?_, hs⟩
      · obtain ⟨_, hl', hc⟩ := World.cells?_some h1
        have e := hc 0 (by omega)
        simpa [Addr.add] using e
    have hsp : spot = none := by
      obtain ⟨_, _, sv, e, _⟩ := hall 0 (by omega)
      exact World.cell?_spot (by simpa [Addr.add] using e)
    subst hsp
    obtain ⟨f, hf⟩ := choose_lt hall
    refine ⟨blk, off, (List.range len).map f, rfl, by simp, by simp; omega, ?_, fun i ls hls => ?_⟩
    · obtain ⟨_, sv, e, _⟩ := hf 0 (by omega)
      have := World.block_lt_of_cell? _ _ e
      simpa [Addr.add] using this
    · have hi : i < len := by
        have := (List.getElem?_eq_some_iff.1 hls).1
        simpa using this
      have e : ls = f i := by
        rw [List.getElem?_map, List.getElem?_range hi] at hls
        simpa using hls.symm
      subst e
      obtain ⟨h1, sv, h2, h3⟩ := hf i hi
      rw [add_plain4] at h2
      exact ⟨h1, sv, h2, h3⟩

set_option maxRecDepth 100000 in
theorem contract (H : Type) (enc : TypeId × Value → H) (W : World) (base : Nat) (args : Array Value) (ds gs : List (DataW H)) (before : List MemPlace)
    (hval0 : ∀ (j : Nat) t v, Tryd.f3.params[j]? = some t → args[j]? = some v → Value.okWide Tryd.prog W .any base t v)
    (hW : DataW.Whole enc Tryd.prog Tryd.f3.params.toList Rows.syncedSpec.vars false W args.toList ds gs before) (hsz : (DataW.weightsEach Tryd.prog (Tryd.f3.params.toList ++ (OpenSpec.ofChange Rows.syncedSpec).bare.plain.varTypes Tryd.prog) (ds ++ gs)).all (· ≤ reachBytes) = true) (hfx : Fx W) :
    Calls Tryd.prog 3 args W fun e W' => ∃ v, e = .returned v ∧ Rows.syncedSpec.post enc Tryd.prog Tryd.f3 false true false false W args v W' := by
  have hval : ∀ (j : Nat) t v, Tryd.f3.params[j]? = some t → args[j]? = some v → Value.okWide Tryd.prog W .any base t v := hval0
  have hW' := hW
  obtain ⟨p, q, hA0, hV, rfl, hfz, hnd⟩ := hW
  have hA : DataW.TrodAll enc Tryd.prog W 0 (fun _ => true) true Tryd.f3.params.toList args.toList ds p := hA0
  rw [Tryd.params3] at hA hval
  obtain ⟨v0, vs0, d0, ds0, p0, q0, hargs, rfl, rfl, h0, r0⟩ := trodAll_cons hA
  obtain ⟨v1, vs1, d1, ds1, p1, q1, rfl, rfl, rfl, h1, r1⟩ := trodAll_cons r0
  obtain ⟨rfl, rfl, rfl⟩ := trodAll_nil r1
  obtain rfl : args = #[v0, v1] := by cases args; simp_all
  obtain ⟨rfl, rfl⟩ := trodVars_none hV
  obtain ⟨c, rfl, rfl, rfl, w0⟩ := open_int Tryd.underlying3 (hval 0 3 v0 rfl rfl) h0
  obtain ⟨a1, len1, cap1, rfl⟩ := okWide_slice Tryd.underlying22 (hval 1 22 v1 rfl rfl)
  have k1 := h1
  have lt1 : ∀ x ∈ p1, x.block < W.heap.size := by obtain ⟨m, hm⟩ := k1; exact DataW.trod_lt m _ _ _ hm
  clear hA0 hval0
  rw [Tryd.params3] at hsz
  have hr := reach_each hsz (j := 1) (t := 22) (d := d1) rfl rfl
  obtain ⟨fuel, hf⟩ := h1
  have hs := lists_of (by simpa [Value.cells] using hf) hr
  have hcalls : Calls Tryd.prog 3 #[.int .i64 c, .slice a1 len1 cap1] W fun e w' => e = .returned (.bool true) ∧ Below W.heap.size W w' := by
    rcases hs with rfl | ⟨blk, off, LL, rfl, rfl, hl, hS⟩
    · exact synced_none c a1 cap1 W
    · exact synced_some c blk off cap1 LL W hfx hl hS
  refine hcalls.mono fun e W' ⟨he, bel⟩ => ?_
  subst he
  exact ⟨_, rfl, _, _, _, [], _, [], hW', trodAll_mk1 (shut_bool Tryd.underlying4 _), (trodAll_cons_mk (shut_int Tryd.underlying3 w0) (trodAll_cons_mk (Below.trod laidOut (by kernel_rfl) (of_decide_eq_true (by kernel_rfl)) k1 bel lt1) trodAll_mk0)), rfl, bel.frame _, fun h => by cases h⟩

theorem laid_met (os : Os) : laidMet Tryd.prog Rows.syncedRow.laid (({ World.holding Tryd.prog os ⟨#[], #[], []⟩ with heap := (World.holding Tryd.prog os ⟨#[], #[], []⟩).heap.modify 0 fun | .cells _ t frozen => .cells #[.string ⟨#[116, 111]⟩, .string ⟨#[]⟩, .string ⟨#[107, 105, 110, 100]⟩, .string ⟨#[116, 101, 120, 116]⟩, .string ⟨#[107, 105, 110, 100]⟩, .string ⟨#[99, 97, 108, 108]⟩, .string ⟨#[117, 114, 103, 101, 110, 116]⟩, .string ⟨#[110, 111]⟩] t frozen | o => o } : World).forCall (fun _ _ => 0) ⟨#[], #[.int .i64 0, .slice none 0 0], []⟩).memory :=
  laidMet_of_run' 8 (by kernel_rfl) (by kernel_rfl)
theorem reads (os : Os) {H : Type} (enc : TypeId × Value → H) : ∃ places, DataW.whole enc Tryd.prog (({ World.holding Tryd.prog os ⟨#[], #[], []⟩ with heap := (World.holding Tryd.prog os ⟨#[], #[], []⟩).heap.modify 0 fun | .cells _ t frozen => .cells #[.string ⟨#[116, 111]⟩, .string ⟨#[]⟩, .string ⟨#[107, 105, 110, 100]⟩, .string ⟨#[116, 101, 120, 116]⟩, .string ⟨#[107, 105, 110, 100]⟩, .string ⟨#[99, 97, 108, 108]⟩, .string ⟨#[117, 114, 103, 101, 110, 116]⟩, .string ⟨#[110, 111]⟩] t frozen | o => o } : World).forCall (fun _ _ => 0) ⟨#[], #[.int .i64 0, .slice none 0 0], []⟩).memory Tryd.f3.params.toList Rows.syncedSpec.vars false #[Value.int .i64 0, .slice none 0 0].toList 8 = some ([.lit (.int .i64 0), .nil], [], places) :=
  ⟨[], by kernel_rfl⟩

set_option maxRecDepth 100000 in
theorem lifted (os : Os) (started : os.Started) (H : Type) (enc : TypeId × Value → H) (F : Stop.Interp) :
    ReturnsInHanded {} Tryd.checked os 3 .any ((OpenSpec.ofChange Rows.syncedSpec).preRow enc Tryd.prog Tryd.f3 Rows.syncedRow.domain false Rows.syncedRow.laid) (((OpenSpec.ofChange Rows.syncedSpec).at F).post enc Tryd.prog Tryd.f3 false true false false) := by
  obtain ⟨places, hx⟩ := reads os enc
  refine returnsInHanded_of_row (C := Tryd.checked) (s := OpenSpec.ofChange Rows.syncedSpec) own started (by kernel_rfl) Tryd.func3
    (witness_row_at (enc := enc) (C := Tryd.checked) false ({ World.holding Tryd.prog os ⟨#[], #[], []⟩ with heap := (World.holding Tryd.prog os ⟨#[], #[], []⟩).heap.modify 0 fun | .cells _ t frozen => .cells #[.string ⟨#[116, 111]⟩, .string ⟨#[]⟩, .string ⟨#[107, 105, 110, 100]⟩, .string ⟨#[116, 101, 120, 116]⟩, .string ⟨#[107, 105, 110, 100]⟩, .string ⟨#[99, 97, 108, 108]⟩, .string ⟨#[117, 114, 103, 101, 110, 116]⟩, .string ⟨#[110, 111]⟩] t frozen | o => o } : World) #[.int .i64 0, .slice none 0 0] rfl (by kernel_rfl) (by kernel_rfl) (by kernel_rfl)
      (OpenSpec.preRow_of_cond 8 hx (by kernel_rfl) (fun k hk => by cases hk) (by kernel_rfl) (laid_met os))) ?_
  intro W base args ds gs before hval hW _ _ hsz hL _ _
  exact contract H enc W base args ds gs before hval hW hsz (fx_of_laid hL)

theorem said : Rows.SyncedSaid :=
  OpenClaim.holds_of_cond 3 Tryd.f3 rfl rfl rfl rfl rfl rfl rfl ⟨rfl, rfl, rfl, rfl, rfl⟩ rfl rfl rfl rfl rfl (by kernel_rfl) Tryd.func3 (by kernel_rfl)
    (of_decide_eq_true (by kernel_rfl)) (by unfold Func.isWrapper; first | (rw [if_pos (by decide +kernel)]; kernel_rfl) | (rw [if_neg (by decide +kernel)]; exact ⟨rfl, rfl⟩))
    (fun os started H enc _ F => by rw [OpenClaim.pre_eq_preRow]; exact lifted os started H enc F)

theorem plain (f : FuncId) (fn : Func) (hf : Tryd.pinned.checked.prog.funcNamed "link/linklaw.Synced" = some f) (hfn : Tryd.pinned.checked.prog.funcs[f]? = some fn) :
    false = Tryd.pinned.checked.prog.looks [] ∧ ∀ (j : Nat) t, fn.params[j]? = some t → Tryd.pinned.checked.prog.wantsStandIn t = false := by
  obtain rfl : f = 3 := Option.some.inj ((show Tryd.prog.funcNamed "link/linklaw.Synced" = some 3 by kernel_rfl).symm.trans hf) |>.symm
  obtain rfl : fn = Tryd.f3 := (Option.some.inj (Tryd.func3.symm.trans hfn)).symm
  refine ⟨by kernel_rfl, fun j t ht => ?_⟩
  rw [Tryd.params3] at ht
  have hm : t ∈ [3, 22] := by simpa using Array.mem_of_getElem? ht
  have hall : ([3, 22].all fun u => !Tryd.prog.wantsStandIn u) = true := by kernel_rfl
  exact (show Tryd.prog.wantsStandIn t = false by simpa using List.all_eq_true.1 hall t hm)

theorem card : Rows.SyncedCardSaid :=
  Claim7.holds_tied_plain_at .later [] _ _ _ _ said (fun _ h => by cases h) (by kernel_rfl) (fun _ h => by cases h) synced_row_tie rfl ⟨rfl, rfl⟩ (by kernel_rfl) rfl plain (by kernel_rfl)
end Go.Proofs.YtbkpdapagfjmmaaDoor.syncedF
namespace Go.Proofs.YtbkpdapagfjmmaaDoor
theorem synced_holds : Rows.SyncedCardSaid := syncedF.card
end Go.Proofs.YtbkpdapagfjmmaaDoor
