/-
  The first four entries, as the row lists them.
-/
import Derived.Test.YtbkpdapagfjmmaaGreatDoorRows
import Derived.Test.YtbkpdapagfjmmaaGreatDoorT1
import Derived.ProofKit
import Derived.OpenShut
import Derived.ShutString
import Derived.ChangeOld
import Derived.JoinedCond
import Derived.Deep.Slices
import Derived.Deep.DeepHandedRow
import Derived.Lib.LaidTab
namespace Go.Proofs.YtbkpdapagfjmmaaGreatDoor
open Go.ChangeShapes Go.WideShapes Go.ChangeAt Go.RowKit

theorem gFixed : Tryz.prog.globalNamed "link/link.fixed" = some 0 := by kernel_rfl
theorem tFixed : (Tryz.prog.globals[0]?).map (·.type) = some 282 := by kernel_rfl
theorem cellsHd : Tryz.prog.cellsOf 112 = 2 := by kernel_rfl
theorem cellsFixed : Tryz.prog.cellsOf 282 = 8 := by kernel_rfl
theorem cellsStr : Tryz.prog.cellsOf 9 = 1 := by kernel_rfl

set_option maxRecDepth 100000 in
/-- A header that was read as data. -/
theorem open_hd {H : Type} {enc : TypeId × Value → H} {w : World} {base : Nat} {spare : Nat → Bool} {held : Bool} {fuel : Nat} {cs : List Value} {x : DataW H × List MemPlace}
    (h : DataW.trod enc Tryz.prog w base spare held fuel 112 cs = some x) : ∃ a b : ByteArray, cs = [.string a, .string b] ∧ x.1 = .agg [.lit (.string a.data.toList), .lit (.string b.data.toList)] := by
  obtain ⟨xs, n, _, rfl, hl, hlen, hf⟩ := DataW.trod_struct Tryz.underlying112 h
  rw [cellsHd] at hl
  match cs, hl with
  | [c0, c1], _ =>
  match xs, hlen with
  | [y0, y1], _ =>
  have f0 : DataW.trod enc Tryz.prog w base spare held n 9 (([c0, c1].drop 0).take (Tryz.prog.cellsOf 9)) = some y0 := hf 0 _ rfl
  rw [cellsStr] at f0
  have f1 : DataW.trod enc Tryz.prog w base spare held n 9 (([c0, c1].drop 1).take (Tryz.prog.cellsOf 9)) = some y1 := hf 1 _ rfl
  rw [cellsStr] at f1
  simp only [List.drop_zero, List.drop_succ_cons, List.take_succ_cons, List.take_zero] at f0 f1
  obtain ⟨a, e0, rfl, _⟩ := DataW.trod_string Tryz.underlying9 f0
  obtain ⟨b, e1, rfl, _⟩ := DataW.trod_string Tryz.underlying9 f1
  simp only [List.cons.injEq, and_true] at e0 e1
  subst e0 e1
  exact ⟨a, b, rfl, rfl⟩

theorem bs_eq {a : ByteArray} {l : Lk.Bs} (h : a.data.toList = l) : a = bs l := by subst h; simp [bs]

set_option maxRecDepth 100000 in
theorem fx_of_laid {W : World} (h : laidMet Tryz.prog [("link/link.fixed", Rows.laid_link_link_fixed)] W) : Fx W := by
  obtain ⟨ps, ⟨g0, t0, cs0, f0, p0, q0, hg0, ht0, hv0, hd0, _⟩, _⟩ := h
  obtain rfl := Option.some.inj (gFixed.symm.trans hg0)
  obtain rfl := Option.some.inj (tFixed.symm.trans ht0)
  obtain ⟨xs, m1, rfl, hx1, hlen, hn4, hel⟩ := DataW.trod_array Tryz.underlying282 hd0
  rw [cellsFixed] at hlen
  rw [cellsHd] at hel
  have hcell := fun j => World.var?_cell hg0 hv0 j
  match xs, hn4 with
  | [x0, x1, x2, x3], _ =>
  obtain ⟨a0, b0, e0, d0⟩ := open_hd (hel 0 (by decide))
  obtain ⟨a1, b1, e1, d1⟩ := open_hd (hel 1 (by decide))
  obtain ⟨a2, b2, e2, d2⟩ := open_hd (hel 2 (by decide))
  obtain ⟨a3, b3, e3, d3⟩ := open_hd (hel 3 (by decide))
  simp only [Rows.laid_link_link_fixed, Prod.mk.injEq, DataW.agg.injEq, List.map_cons, List.map_nil, List.cons.injEq, d0, d1, d2, d3, DataW.lit.injEq, Lit.string.injEq, and_true] at hx1
  obtain ⟨⟨⟨y0, z0⟩, ⟨y1, z1⟩, ⟨y2, z2⟩, ⟨y3, z3⟩⟩, _⟩ := hx1
  obtain ⟨l⟩ := cs0
  simp only at hlen e0 e1 e2 e3
  match l, hlen with
  | [c0, c1, c2, c3, c4, c5, c6, c7], _ =>
  simp at e0 e1 e2 e3
  obtain ⟨rfl, rfl⟩ := e0
  obtain ⟨rfl, rfl⟩ := e1
  obtain ⟨rfl, rfl⟩ := e2
  obtain ⟨rfl, rfl⟩ := e3
  obtain rfl := bs_eq y0.symm
  obtain rfl := bs_eq z0.symm
  obtain rfl := bs_eq y1.symm
  obtain rfl := bs_eq z1.symm
  obtain rfl := bs_eq y2.symm
  obtain rfl := bs_eq z2.symm
  obtain rfl := bs_eq y3.symm
  obtain rfl := bs_eq z3.symm
  have k0 := hcell 0
  have k1 := hcell 1
  have k2 := hcell 2
  have k3 := hcell 3
  have k4 := hcell 4
  have k5 := hcell 5
  have k6 := hcell 6
  have k7 := hcell 7
  refine ⟨World.block_lt_of_cell? _ _ k0, fun i x hx => ?_⟩
  match i, hx with
  | 0, hx => cases hx; exact ⟨k0, k1⟩
  | 1, hx => cases hx; exact ⟨k2, k3⟩
  | 2, hx => cases hx; exact ⟨k4, k5⟩
  | 3, hx => cases hx; exact ⟨k6, k7⟩
  | n + 4, hx => simp [Lk.fixedL] at hx
end Go.Proofs.YtbkpdapagfjmmaaGreatDoor
