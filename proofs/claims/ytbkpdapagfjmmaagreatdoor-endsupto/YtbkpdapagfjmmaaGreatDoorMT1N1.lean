import Derived.Test.YtbkpdapagfjmmaaGreatDoorMSpecW0
import Derived.Test.YtbkpdapagfjmmaaGreatDoorProg
import Derived.Deep.RegionWith
import Derived.Test.YtbkpdapagfjmmaaGreatDoorRows
import Derived.ProofKit
import Derived.OpenShut
import Derived.ShutString
import Derived.ChangeOld
import Derived.JoinedCond
import Derived.Deep.Slices
import Derived.Deep.DeepHandedRow
import Derived.Lib.LaidTab
import Derived.Deep.RegionLaw
import Derived.Deep.AppendLies
import Derived.Deep.DeepCutAuto
import Derived.Maps.OwnSet
set_option linter.unusedVariables false
set_option maxRecDepth 100000
set_option maxHeartbeats 16000000
namespace Go.Proofs.YtbkpdapagfjmmaaGreatDoor
open Go.RowKit
def bs (l : Lk.Bs) : ByteArray := ⟨l.toArray⟩
def hdV (h : Lk.Hd) : List Value := [.string (bs h.n), .string (bs h.v)]
def hdsV (l : List Lk.Hd) : List Value := l.flatMap hdV
abbrev hdA (h : Lk.Hd) : Value := .agg #[.string (bs h.n), .string (bs h.v)]
theorem bs_size (l : Lk.Bs) : (bs l).size = l.length := by simp [bs, ByteArray.size]
theorem hdsV_len (l : List Lk.Hd) : (hdsV l).length = l.length * 2 := by
  induction l with
  | nil => rfl
  | cons f fs ih => simp only [hdsV, List.flatMap_cons, List.length_append, hdV, List.length_cons, List.length_nil] at ih ⊢; omega
theorem hdsV_at (l : List Lk.Hd) : ∀ (i : Nat) (x : Lk.Hd), l[i]? = some x → (hdsV l)[i * 2]? = some (.string (bs x.n)) ∧ (hdsV l)[i * 2 + 1]? = some (.string (bs x.v)) := by
  induction l with
  | nil => intro i x h; simp at h
  | cons f fs ih =>
    intro i x h
    cases i with
    | zero => simp at h; subst h; simp [hdsV, hdV]
    | succ i =>
      have := ih i x (by simpa using h)
      simp only [hdsV, List.flatMap_cons, hdV] at this ⊢
      have e : (i + 1) * 2 = i * 2 + 2 := by omega
      rw [e]
      simpa using this
theorem hdsV_append (a b : List Lk.Hd) : hdsV (a ++ b) = hdsV a ++ hdsV b := by simp [hdsV]
theorem owned_hds {w : World} {B : Nat} {T : TypeId} {v : Value} {l : List Lk.Hd} (h : w.ownsRow B T 2 v l.length (hdsV l)) :
    (l = [] ∧ v = .slice none 0 0) ∨ ∃ g cap, v = .slice (some ⟨g, 0, none⟩) l.length cap ∧ B ≤ g ∧ g < w.heap.size ∧ l.length ≤ cap ∧ ∀ (i : Nat) (x : Lk.Hd), l[i]? = some x → w.cell? ⟨g, i * 2, none⟩ = some (.string (bs x.n)) ∧ w.cell? ⟨g, i * 2 + 1, none⟩ = some (.string (bs x.v)) := by
  rcases h.2 with ⟨rfl, h0⟩ | ⟨g, cap, cur, rfl, hB, hg, hn, hc, hs, ht⟩
  · exact .inl ⟨List.eq_nil_of_length_eq_zero h0, rfl⟩
  · have hI : Is w g T cur.toList := by unfold Is; simpa using hg
    refine .inr ⟨g, cap, rfl, hB, hI.lt, hn, fun i x hx => ?_⟩
    have e := hdsV_at l i x hx
    have hi : i < l.length := by
      rcases Nat.lt_or_ge i l.length with h | h
      · exact h
      · rw [List.getElem?_eq_none h] at hx; cases hx
    have hc : ∀ j, j < l.length * 2 → w.cell? ⟨g, j, none⟩ = (hdsV l)[j]? := by
      intro j hj
      rw [hI.cell j, ← ht, List.getElem?_take_of_lt hj]
    rw [hc _ (by omega), hc _ (by omega)]
    exact e
theorem row_at2 {w : World} {B g n cap i : Nat} {T : TypeId} {l : List Lk.Hd} {x : Lk.Hd} (h : w.ownsRow B T 2 (.slice (some ⟨g, 0, none⟩) n cap) n (hdsV l)) (hx : l[i]? = some x) :
    g < w.heap.size ∧ w.cell? ⟨g, i * 2, none⟩ = some (.string (bs x.n)) ∧ w.cell? ⟨g, i * 2 + 1, none⟩ = some (.string (bs x.v)) := by
  have hn : n = l.length := by have := h.1; rw [hdsV_len] at this; omega
  subst hn
  rcases owned_hds h with ⟨_, h⟩ | ⟨g', cap', h, _, hg, _, hc⟩
  · cases h
  · cases h
    exact ⟨hg, hc i x hx⟩
def Fx (w : World) : Prop := 0 < w.heap.size ∧ ∀ (i : Nat) (x : Lk.Hd), Lk.fixedL[i]? = some x → w.cell? ⟨0, i * 2, none⟩ = some (.string (bs x.n)) ∧ w.cell? ⟨0, i * 2 + 1, none⟩ = some (.string (bs x.v))
theorem Fx.below {w w' : World} {B : Nat} (h : Fx w) (hb : Below B w w') (hB : 0 < B) : Fx w' :=
  ⟨Nat.lt_of_lt_of_le h.1 hb.size, fun i x hx => by rw [hb.cell (p := ⟨0, _, none⟩) hB, hb.cell (p := ⟨0, _, none⟩) hB]; exact h.2 i x hx⟩
theorem Fx.grown {w w' : World} {row : Option Nat} (h : Fx w) (hb : w.grownBy w' row) (hr : some 0 ≠ row) : Fx w' :=
  ⟨Nat.lt_of_lt_of_le h.1 hb.size, fun i x hx => by
    have e : ∀ k, w'.cell? ⟨0, k, none⟩ = w.cell? ⟨0, k, none⟩ := fun k => by simp only [World.cell?]; rw [hb.block 0 h.1 hr]
    rw [e, e]; exact h.2 i x hx⟩
theorem weight_any (h : Lk.Hd) (w : World) (hl : h.n.length ≤ 1000) (hv : h.v.length ≤ 1000) :
    Calls Tryz.prog 126 #[hdA h] w fun e w' => e = .returned (.int .i64 h.weight) ∧ Below w.heap.size w w' := by
  unfold hdA
  have h1 := bs_size h.n
  have h2 := bs_size h.v
  go_enter Tryz.func126, Tryz.ntmps126
  go_wp2_with fail
  go_ret
  refine ⟨ret_int ?_, (Below.refl _ _).alloc (Nat.le_refl _) _⟩
  simp [Lk.Hd.weight]
def zeroHd : Lk.Hd := ⟨[], []⟩
theorem entry_fixed (b o i : Nat) (x : Lk.Hd) (w : World) (hi : (i : Int) < 4) (hfx : Fx w) (hx : Lk.fixedL[i]? = some x) :
    Calls Tryz.prog 184 #[.pointer (some ⟨b, o, none⟩), .int .i64 i] w fun e w' => e = .returned (.tuple #[hdA x, .bool true]) ∧ Below w.heap.size w w' := by
  obtain ⟨h0, hc⟩ := hfx
  obtain ⟨c0, c1⟩ := hc i x hx
  clear hc hx
  have hi2 : i * 2 < 8 := by omega
  go_enter Tryz.func184, Tryz.ntmps184
  go_wp2_with fail
  exact bodyPost_ret (v := .tuple #[hdA x, .bool true]) (by simp [results, Tryz.results184, go_sem, hdA]) rfl ⟨rfl, by ((repeat' (first | exact Below.refl _ _ | assumption | apply Below.drew | apply Below.alloc | apply Below.setCell)) <;> (simp <;> omega))⟩
theorem entry_none (b o i : Nat) (n cap : Nat) (ad : Option Addr) (w : World) (hb : b < w.heap.size) (hi : ¬ (i : Int) < 4) (hiN : i ≤ 2 ^ 40) (hv : w.cell? ⟨b, o + 2, none⟩ = some (.slice ad n cap)) (hn : ¬ (i : Int) - 4 < n) :
    Calls Tryz.prog 184 #[.pointer (some ⟨b, o, none⟩), .int .i64 i] w fun e w' => e = .returned (.tuple #[hdA zeroHd, .bool false]) ∧ Below w.heap.size w w' := by
  go_enter Tryz.func184, Tryz.ntmps184
  go_wp2_with fail
  exact bodyPost_ret (v := .tuple #[hdA zeroHd, .bool false]) (by simp [results, Tryz.results184, go_sem, hdA, zeroHd, bs]) rfl ⟨rfl, by ((repeat' (first | exact Below.refl _ _ | assumption | apply Below.drew | apply Below.alloc | apply Below.setCell)) <;> (simp <;> omega))⟩
theorem entry_kept (b o i : Nat) (x : Lk.Hd) (n cap g : Nat) (w : World) (hb : b < w.heap.size) (hi : ¬ (i : Int) < 4) (hiN : i ≤ 2 ^ 40) (hv : w.cell? ⟨b, o + 2, none⟩ = some (.slice (some ⟨g, 0, none⟩) n cap)) (hn : (i : Int) - 4 < n) (hg : g < w.heap.size)
    (c0 : w.cell? ⟨g, (i - 4) * 2, none⟩ = some (.string (bs x.n))) (c1 : w.cell? ⟨g, (i - 4) * 2 + 1, none⟩ = some (.string (bs x.v))) :
    Calls Tryz.prog 184 #[.pointer (some ⟨b, o, none⟩), .int .i64 i] w fun e w' => e = .returned (.tuple #[hdA x, .bool true]) ∧ Below w.heap.size w w' := by
  go_enter Tryz.func184, Tryz.ntmps184
  go_wp2_with fail
  exact bodyPost_ret (v := .tuple #[hdA x, .bool true]) (by simp [results, Tryz.results184, go_sem, hdA]) rfl ⟨rfl, by ((repeat' (first | exact Below.refl _ _ | assumption | apply Below.drew | apply Below.alloc | apply Below.setCell)) <;> (simp <;> omega))⟩
end Go.Proofs.YtbkpdapagfjmmaaGreatDoor

namespace Go.Proofs.YtbkpdapagfjmmaaGreatDoor
open Go.ChangeShapes Go.WideShapes Go.ChangeAt Go.RowKit
theorem gFixed : Tryz.prog.globalNamed "link/link.fixed" = some 0 := by kernel_rfl
theorem tFixed : (Tryz.prog.globals[0]?).map (·.type) = some 282 := by kernel_rfl
theorem cellsHd : Tryz.prog.cellsOf 112 = 2 := by kernel_rfl
theorem cellsFixed : Tryz.prog.cellsOf 282 = 8 := by kernel_rfl
theorem cellsStr : Tryz.prog.cellsOf 9 = 1 := by kernel_rfl
theorem open_hd {H : Type} {enc : TypeId × Value → H} {w : World} {base : Nat} {spare : Nat → Bool} {held : Bool} {fuel : Nat} {cs : List Value} {x : DataW H × List MemPlace}
    (h : DataW.trod enc Tryz.prog w base spare held fuel 112 cs = some x) : ∃ a b : ByteArray, cs = [.string a, .string b] ∧ x.1 = .agg [.lit (.string a.data.toList), .lit (.string b.data.toList)] := by
  obtain ⟨xs, n, _, rfl, hl, hlen, hf⟩ := DataW.trod_struct Tryz.underlying112 h
  rw [cellsHd] at hl
  match cs, hl with
  | [c0, c1], _ =>
  match xs, hlen with
  | [y0, y1], _ =>
  have f0 : DataW.trod enc Tryz.prog w base spare held n 9 (([c0, c1].drop 0).take (Tryz.prog.cellsOf 9)) = some y0 := hf 0 _ rfl
  rw [cellsStr] at f0
  have f1 : DataW.trod enc Tryz.prog w base spare held n 9 (([c0, c1].drop 1).take (Tryz.prog.cellsOf 9)) = some y1 := hf 1 _ rfl
  rw [cellsStr] at f1
  simp only [List.drop_zero, List.drop_succ_cons, List.take_succ_cons, List.take_zero] at f0 f1
  obtain ⟨a, e0, rfl, _⟩ := DataW.trod_string Tryz.underlying9 f0
  obtain ⟨b, e1, rfl, _⟩ := DataW.trod_string Tryz.underlying9 f1
  simp only [List.cons.injEq, and_true] at e0 e1
  subst e0 e1
  exact ⟨a, b, rfl, rfl⟩
theorem bs_eq {a : ByteArray} {l : Lk.Bs} (h : a.data.toList = l) : a = bs l := by subst h; simp [bs]
theorem fx_of_laid {W : World} (h : laidMet Tryz.prog [("link/link.fixed", Rows.laid_link_link_fixed)] W) : Fx W := by
  obtain ⟨ps, ⟨g0, t0, cs0, f0, p0, q0, hg0, ht0, hv0, hd0, _⟩, _⟩ := h
  obtain rfl := Option.some.inj (gFixed.symm.trans hg0)
  obtain rfl := Option.some.inj (tFixed.symm.trans ht0)
  obtain ⟨xs, m1, rfl, hx1, hlen, hn4, hel⟩ := DataW.trod_array Tryz.underlying282 hd0
  rw [cellsFixed] at hlen
  rw [cellsHd] at hel
  have hcell := fun j => World.var?_cell hg0 hv0 j
  match xs, hn4 with
  | [x0, x1, x2, x3], _ =>
  obtain ⟨a0, b0, e0, d0⟩ := open_hd (hel 0 (by decide))
  obtain ⟨a1, b1, e1, d1⟩ := open_hd (hel 1 (by decide))
  obtain ⟨a2, b2, e2, d2⟩ := open_hd (hel 2 (by decide))
  obtain ⟨a3, b3, e3, d3⟩ := open_hd (hel 3 (by decide))
  simp only [Rows.laid_link_link_fixed, Prod.mk.injEq, DataW.agg.injEq, List.map_cons, List.map_nil, List.cons.injEq, d0, d1, d2, d3, DataW.lit.injEq, Lit.string.injEq, and_true] at hx1
  obtain ⟨⟨⟨y0, z0⟩, ⟨y1, z1⟩, ⟨y2, z2⟩, ⟨y3, z3⟩⟩, _⟩ := hx1
  obtain ⟨l⟩ := cs0
  simp only at hlen e0 e1 e2 e3
  match l, hlen with
  | [c0, c1, c2, c3, c4, c5, c6, c7], _ =>
  simp at e0 e1 e2 e3
  obtain ⟨rfl, rfl⟩ := e0
  obtain ⟨rfl, rfl⟩ := e1
  obtain ⟨rfl, rfl⟩ := e2
  obtain ⟨rfl, rfl⟩ := e3
  obtain rfl := bs_eq y0.symm
  obtain rfl := bs_eq z0.symm
  obtain rfl := bs_eq y1.symm
  obtain rfl := bs_eq z1.symm
  obtain rfl := bs_eq y2.symm
  obtain rfl := bs_eq z2.symm
  obtain rfl := bs_eq y3.symm
  obtain rfl := bs_eq z3.symm
  have k0 := hcell 0
  have k1 := hcell 1
  have k2 := hcell 2
  have k3 := hcell 3
  have k4 := hcell 4
  have k5 := hcell 5
  have k6 := hcell 6
  have k7 := hcell 7
  refine ⟨World.block_lt_of_cell? _ _ k0, fun i x hx => ?_⟩
  match i, hx with
  | 0, hx => cases hx; exact ⟨k0, k1⟩
  | 1, hx => cases hx; exact ⟨k2, k3⟩
  | 2, hx => cases hx; exact ⟨k4, k5⟩
  | 3, hx => cases hx; exact ⟨k6, k7⟩
  | n + 4, hx => simp [Lk.fixedL] at hx
end Go.Proofs.YtbkpdapagfjmmaaGreatDoor

namespace Go.Proofs.YtbkpdapagfjmmaaGreatDoor
open Go.RowKit
theorem one_new_at (w : World) (x : Value) (t : TypeId) (H : Nat) (hH : w.heap.size = H) : ∀ j u, [x][j]? = some u → (w.alloc (.cells #[x] t)).drew.cell? ((⟨H, 0, none⟩ : Addr).add j) = some u := by
  subst hH
  exact cell_one_new w x t
theorem Is.ne {w : World} {a b : Nat} {T T' : TypeId} {cs cs' : List Value} (h : Is w a T cs) (h' : Is w b T' cs') (hT : T ≠ T') : a ≠ b := by
  rintro rfl
  unfold Is at h h'
  rw [h] at h'
  simp at h'
  exact hT h'.2
theorem own_ne {w : World} {B b : Nat} {T e : TypeId} {size n : Nat} {v : Value} {xs cs : List Value} (h : w.ownsRow B e size v n xs) (h' : Is w b T cs) (hT : T ≠ e) : some b ≠ v.ownBlock := by
  rcases h.2 with ⟨rfl, _⟩ | ⟨g, cap, cur, rfl, _, hg, _⟩
  · simp [Value.ownBlock]
  · have hI : Is w g e cur.toList := by unfold Is; simpa using hg
    have := h'.ne hI hT
    simp [Value.ownBlock]
    exact this
def ptr (b : Nat) : Value := .pointer (some ⟨b, 0, none⟩)
abbrev nilS : Value := .slice none 0 0
theorem own_own_ne {w : World} {B B' : Nat} {e e' : TypeId} {size size' n n' : Nat} {v v' : Value} {xs xs' : List Value} (h : w.ownsRow B e size v n xs) (h' : w.ownsRow B' e' size' v' n' xs') (hT : e ≠ e') : v.ownBlock = none ∨ v.ownBlock ≠ v'.ownBlock := by
  rcases h.2 with ⟨rfl, _⟩ | ⟨g, cap, cur, rfl, _, hg, _⟩
  · exact .inl rfl
  · right
    have hI : Is w g e cur.toList := by unfold Is; simpa using hg
    exact own_ne h' hI hT
theorem undrew {w w' : World} {row : Option Nat} (h : w.drew.grownBy w' row) : w.grownBy w' row := ⟨h.os, h.tape, h.output, h.size, h.block⟩
theorem grownBy_set (w : World) (b i : Nat) (x : Value) : w.grownBy (w.setCell ⟨b, i, none⟩ x) (some b) :=
  ⟨rfl, rfl, rfl, by simp, fun k _ hn => heap_setCell_other _ _ _ _ (fun e => hn (congrArg some e))⟩
theorem Turns.grownNew {b : Nat} {w w1 w2 : World} {row : Option Nat} (h : Turns b w w1) (hg : w1.grownBy w2 row) (hr : ∀ k, row = some k → w.heap.size ≤ k) : Turns b w w2 :=
  ⟨hg.os.trans h.os, hg.tape.trans h.tape, hg.output.trans h.output, Nat.le_trans h.size hg.size, fun k hk hn => (hg.block k (Nat.lt_of_lt_of_le hk h.size) (fun e => by have := hr k e.symm; omega)).trans (h.block k hk hn)⟩
theorem kept_turns {w w1 w2 : World} {b : Nat} {e : TypeId} {size n : Nat} {v : Value} {xs : List Value} (h : w1.ownsRow w.heap.size e size v n xs) (hb : b < w.heap.size) (hT : Turns b w1 w2) : w2.ownsRow w.heap.size e size v n xs := by
  refine h.kept hT ?_
  cases hv : Value.ownBlock v with
  | none => exact .inl rfl
  | some k => exact .inr (by have := (h.lt k hv).1; simp; omega)
theorem below_grown {w w' : World} (hb : Below w.heap.size w w') : w.grownBy w' none := ⟨hb.os, hb.tape, hb.output, hb.size, fun i hi _ => hb.block i hi⟩
theorem own_below {w w' : World} {B : Nat} {e : TypeId} {size n : Nat} {v : Value} {xs : List Value} (h : w.ownsRow B e size v n xs) (hb : Below w.heap.size w w') : w'.ownsRow B e size v n xs :=
  h.kept (row := none) (below_grown hb) (by cases v.ownBlock <;> simp)
theorem own_belowB {w w' : World} {B B' : Nat} {e : TypeId} {size n : Nat} {v : Value} {xs : List Value} (h : w.ownsRow B e size v n xs) (hb : Below B' w w') (hB : w.heap.size ≤ B') : w'.ownsRow B e size v n xs :=
  own_below h ⟨hb.os, hb.tape, hb.output, hb.size, fun i hi => hb.block i (by omega)⟩
theorem call_keeps {W w' : World} (hb : Below W.heap.size W w') {b k : Nat} {v : Value} (hlt : b < W.heap.size) (hc : W.cell? ⟨b, k, none⟩ = some v) : w'.cell? ⟨b, k, none⟩ = some v := by
  rw [hb.cell (p := ⟨b, k, none⟩) hlt]; exact hc
theorem call_free {W w' : World} (hb : Below W.heap.size W w') {b k : Nat} (hlt : b < W.heap.size) (hc : W.frozen? ⟨b, k, none⟩ = false) : w'.frozen? ⟨b, k, none⟩ = false := by
  rw [hb.frozen (p := ⟨b, k, none⟩) hlt]; exact hc
theorem call_lt {W w' : World} (hb : Below W.heap.size W w') {b : Nat} (hlt : b < W.heap.size) : b < w'.heap.size := Nat.lt_of_lt_of_le hlt hb.size
theorem undrewB {W w' : World} {B : Nat} (h : Below B W.drew w') : Below B W w' := ⟨h.os, h.tape, h.output, h.size, h.block⟩
theorem Below.turns {w w1 : World} (h : Below w.heap.size w w1) (b : Nat) : Turns b w w1 := (Turns.refl b w).below h
def KeepsT (e : TypeId) (w w' : World) : Prop := ∀ (i : Nat) (T : TypeId) (cs : List Value), T ≠ e → Is w i T cs → Is w' i T cs
theorem KeepsT.refl (e : TypeId) (w : World) : KeepsT e w w := fun _ _ _ _ h => h
theorem KeepsT.trans {e : TypeId} {a b c : World} (h : KeepsT e a b) (k : KeepsT e b c) : KeepsT e a c := fun i T cs hT hI => k i T cs hT (h i T cs hT hI)
theorem KeepsT.alloc {e : TypeId} {a b : World} (h : KeepsT e a b) (o : Obj) : KeepsT e a (b.alloc o) := fun i T cs hT hI => (h i T cs hT hI).alloc o
theorem KeepsT.drewN {e : TypeId} {a b : World} (h : KeepsT e a b) (n : Nat) : KeepsT e a (b.drewN n) := fun i T cs hT hI => (h i T cs hT hI).drewN n
theorem KeepsT.below {e : TypeId} {a b c : World} (h : KeepsT e a b) (hb : Below b.heap.size b c) : KeepsT e a c := fun i T cs hT hI => (h i T cs hT hI).below hb (h i T cs hT hI).lt
theorem KeepsT.grown {e : TypeId} {a b c : World} {B size n : Nat} {v : Value} {xs : List Value} (h : KeepsT e a b) (hg : b.grownBy c v.ownBlock) (own : b.ownsRow B e size v n xs) : KeepsT e a c :=
  fun i T cs hT hI => (h i T cs hT hI).grown hg (own_ne own (h i T cs hT hI) hT)
theorem KeepsT.own {e : TypeId} {a b : World} (h : KeepsT e a b) {B size n : Nat} {T : TypeId} {v : Value} {xs : List Value} (hT : T ≠ e) (ho : a.ownsRow B T size v n xs) : b.ownsRow B T size v n xs := by
  refine ⟨ho.1, ?_⟩
  rcases ho.2 with h0 | ⟨g, cap, cur, h0, h1, h2, h3⟩
  · exact .inl h0
  · have hI : Is a g T cur.toList := by unfold Is; simpa using h2
    have := h g T _ hT hI
    unfold Is at this
    exact .inr ⟨g, cap, cur, h0, h1, by simpa using this, h3⟩
theorem write_behind {w wc w' : World} {b k B n size : Nat} {T e : TypeId} {cs xs : List Value} {v x y : Value} (hI : Is wc b T cs) (hb : Below wc.heap.size wc w') (hT : Turns b w wc) (ho : wc.ownsRow B e size v n xs) (hne : T ≠ e) (hx : x = y) :
    Is (w'.setCell ⟨b, k, none⟩ x) b T (cs.set k y) ∧ (w'.setCell ⟨b, k, none⟩ x).ownsRow B e size v n xs ∧ Turns b w (w'.setCell ⟨b, k, none⟩ x) := by
  subst hx
  have hI' := hI.below hb hI.lt
  have ho' := own_below ho hb
  exact ⟨hI'.set k x, ho'.kept (grownBy_set w' b k x) (.inr (fun e => own_ne ho' hI' hne e.symm)), (hT.below hb).set k x⟩
end Go.Proofs.YtbkpdapagfjmmaaGreatDoor

namespace Go.Proofs.YtbkpdapagfjmmaaGreatDoor
open Go.RowKit
structure Only (S : Nat → Prop) (w w' : World) : Prop where
  os : w'.os = w.os
  tape : w'.tape = w.tape
  output : w'.output = w.output
  size : w.heap.size ≤ w'.heap.size
  block : ∀ i, i < w.heap.size → ¬ S i → w'.heap[i]? = w.heap[i]?
theorem Only.refl (S : Nat → Prop) (w : World) : Only S w w := ⟨rfl, rfl, rfl, Nat.le_refl _, fun _ _ _ => rfl⟩
theorem Only.trans {S S' : Nat → Prop} {a b c : World} (h : Only S a b) (k : Only S' b c) (hs : ∀ i, S' i → i < a.heap.size → S i) : Only S a c :=
  ⟨k.os.trans h.os, k.tape.trans h.tape, k.output.trans h.output, Nat.le_trans h.size k.size, fun i hi hn => (k.block i (Nat.lt_of_lt_of_le hi h.size) (fun hx => hn (hs i hx hi))).trans (h.block i hi hn)⟩
theorem Only.mono {S S' : Nat → Prop} {a b : World} (h : Only S a b) (hs : ∀ i, S i → S' i) : Only S' a b :=
  ⟨h.os, h.tape, h.output, h.size, fun i hi hn => h.block i hi (fun hx => hn (hs i hx))⟩
theorem Only.of_below {a b : World} (k : Below a.heap.size a b) (S : Nat → Prop) : Only S a b := ⟨k.os, k.tape, k.output, k.size, fun i hi _ => k.block i hi⟩
theorem Only.of_turns {t : Nat} {a b : World} (k : Turns t a b) : Only (· = t) a b := ⟨k.os, k.tape, k.output, k.size, fun i hi hn => k.block i hi (by simpa using hn)⟩
theorem Only.of_grown {a b : World} {row : Option Nat} (k : a.grownBy b row) : Only (fun i => some i = row) a b := ⟨k.os, k.tape, k.output, k.size, fun i hi hn => k.block i hi hn⟩
theorem Only.below {S : Nat → Prop} {a b c : World} (h : Only S a b) (k : Below b.heap.size b c) : Only S a c := h.trans (Only.of_below k (fun _ => False)) (fun _ hx _ => hx.elim)
theorem Only.turns {S : Nat → Prop} {t : Nat} {a b c : World} (h : Only S a b) (k : Turns t b c) (ht : t < a.heap.size → S t) : Only S a c := h.trans (Only.of_turns k) (fun i hx hi => by subst hx; exact ht hi)
theorem Only.grown {S : Nat → Prop} {a b c : World} {row : Option Nat} (h : Only S a b) (k : b.grownBy c row) (hr : ∀ i, row = some i → i < a.heap.size → S i) : Only S a c := h.trans (Only.of_grown k) (fun i hx hi => hr i hx.symm hi)
theorem Only.alloc {S : Nat → Prop} {a b : World} (h : Only S a b) (o : Obj) : Only S a (b.alloc o) := h.below ((Below.refl _ _).alloc (Nat.le_refl _) o)
theorem Only.drewN {S : Nat → Prop} {a b : World} (h : Only S a b) (n : Nat) : Only S a (b.drewN n) := ⟨h.os, h.tape, h.output, h.size, h.block⟩
theorem Only.drew {S : Nat → Prop} {a b : World} (h : Only S a b) : Only S a b.drew := ⟨h.os, h.tape, h.output, h.size, h.block⟩
theorem Only.undrew {S : Nat → Prop} {a b : World} (h : Only S a.drew b) : Only S a b := ⟨h.os, h.tape, h.output, h.size, h.block⟩
theorem Only.set {S : Nat → Prop} {a b : World} (h : Only S a b) (t i : Nat) (v : Value) (ht : t < a.heap.size → S t) : Only S a (b.setCell ⟨t, i, none⟩ v) := h.turns ((Turns.refl t b).set i v) ht
theorem Only.toBelow {S : Nat → Prop} {B : Nat} {a b : World} (h : Only S a b) (hS : ∀ i, S i → i < a.heap.size → B ≤ i) (hB : B ≤ a.heap.size) : Below B a b :=
  ⟨h.os, h.tape, h.output, h.size, fun i hi => h.block i (by omega) (fun hx => by have := hS i hx (by omega); omega)⟩
theorem Only.toTurns {S : Nat → Prop} {t : Nat} {a b : World} (h : Only S a b) (hS : ∀ i, S i → i < a.heap.size → i = t) : Turns t a b :=
  ⟨h.os, h.tape, h.output, h.size, fun i hi hn => h.block i hi (fun hx => hn (congrArg some (hS i hx hi)))⟩
theorem Is.only {S : Nat → Prop} {w w' : World} {b : Nat} {T : TypeId} {cs : List Value} (h : Is w b T cs) (k : Only S w w') (hn : ¬ S b) : Is w' b T cs := by
  unfold Is
  rw [k.block b h.lt hn]
  exact h
theorem own_only {S : Nat → Prop} {w w' : World} {B : Nat} {e : TypeId} {size n : Nat} {v : Value} {xs : List Value} (h : w.ownsRow B e size v n xs) (k : Only S w w') (hn : ∀ i, v.ownBlock = some i → ¬ S i) : w'.ownsRow B e size v n xs := by
  refine ⟨h.1, ?_⟩
  rcases h.2 with h0 | ⟨g, cap, cur, h0, h1, h2, h3⟩
  · exact .inl h0
  · have hI : Is w g e cur.toList := by unfold Is; simpa using h2
    have := hI.only k (hn g (by rw [h0]; rfl))
    unfold Is at this
    exact .inr ⟨g, cap, cur, h0, h1, by simpa using this, h3⟩
theorem own_slice {w : World} {B : Nat} {e : TypeId} {size n : Nat} {v : Value} {xs : List Value} (h : w.ownsRow B e size v n xs) : ∃ a m cap, v = .slice a m cap ∧ m = n := by
  rcases h.2 with ⟨rfl, h0⟩ | ⟨g, cap, cur, rfl, _⟩
  · exact ⟨_, _, _, rfl, h0.symm⟩
  · exact ⟨_, _, _, rfl, rfl⟩
theorem Only.of_belowB {B : Nat} {a b : World} (k : Below B a b) : Only (fun i => B ≤ i) a b := ⟨k.os, k.tape, k.output, k.size, fun i _ hn => k.block i (by omega)⟩
open Go.Maps (Keyed)
def ptrE : Value → Option (DataW Unit × List MemPlace)
  | .pointer (some ⟨b, 0, none⟩) => some (.lit (.int .i64 (b : Int)), [])
  | .pointer none => some (.nil, [])
  | _ => none
theorem ptrE_mk (b : Nat) : ptrE (ptr b) = some (.lit (.int .i64 (b : Int)), []) := rfl
theorem ptrE_inv {v : Value} {b : Int} {ps : List MemPlace} (h : ptrE v = some (.lit (.int .i64 b), ps)) : v = ptr b.toNat := by
  unfold ptrE at h
  split at h
  · simp at h
    obtain ⟨h, _⟩ := h
    rw [← h]
    rfl
  · simp at h
  · cases h
theorem ptrE_nil {v : Value} {ps : List MemPlace} (h : ptrE v = some (.nil, ps)) : v = .pointer none := by
  unfold ptrE at h
  split at h
  · simp at h
  · rfl
  · cases h
def optPtr : Option Nat → Value
  | some b => ptr b
  | none => .pointer none
def MapIs (P : Program) (K : TypeId) (w : World) (b n : Nat) (ins : Int → Option Nat) : Prop :=
  ∃ D : DataW Unit, w.ownsMap P K ptrE b n D ∧ ∀ k : Int, (match ins k with
    | some p => Maps.has D (.int .i64 k) = true ∧ D.atKey (.int .i64 k) .nil = .lit (.int .i64 (p : Int))
    | none => Maps.has D (.int .i64 k) = false)
theorem MapIs.lt {P : Program} {K : TypeId} {w : World} {b n : Nat} {ins : Int → Option Nat} (h : MapIs P K w b n ins) : b < w.heap.size := let ⟨_, h, _⟩ := h; h.lt
theorem MapIs.mono {P : Program} {K : TypeId} {w : World} {b n m : Nat} {ins : Int → Option Nat} (h : MapIs P K w b n ins) (hm : n ≤ m) : MapIs P K w b m ins := let ⟨D, h, k⟩ := h; ⟨D, h.mono hm, k⟩
theorem MapIs.only {P : Program} {K : TypeId} {S : Nat → Prop} {w w' : World} {b n : Nat} {ins : Int → Option Nat} (h : MapIs P K w b n ins) (k : Only S w w') (hn : ¬ S b) : MapIs P K w' b n ins := by
  have hl := h.lt
  obtain ⟨D, ⟨es, clock, hb, h⟩, hk⟩ := h
  exact ⟨D, ⟨es, clock, by rw [k.block b hl hn]; exact hb, h⟩, hk⟩
theorem MapIs.ne {P : Program} {K T : TypeId} {w : World} {b n c : Nat} {ins : Int → Option Nat} {cs : List Value} (h : MapIs P K w b n ins) (hI : Is w c T cs) : b ≠ c := by
  rintro rfl
  obtain ⟨D, ⟨es, clock, hb, _⟩, _⟩ := h
  unfold Is at hI
  rw [hI] at hb
  cases hb
theorem MapIs.ne_own {P : Program} {K : TypeId} {w : World} {b n B m size : Nat} {ins : Int → Option Nat} {e : TypeId} {v : Value} {xs : List Value} (h : MapIs P K w b n ins) (ho : w.ownsRow B e size v m xs) : v.ownBlock ≠ some b := by
  rcases ho.2 with ⟨rfl, _⟩ | ⟨g, cap, cur, rfl, _, hg, _⟩
  · simp [Value.ownBlock]
  · have hI : Is w g e cur.toList := by unfold Is; simpa using hg
    have := h.ne hI
    simp [Value.ownBlock]
    exact fun e => this e.symm
theorem MapIs.made (P : Program) (K : TypeId) (w : World) : MapIs P K (w.alloc (.map #[] 0)) w.heap.size 0 (fun _ => none) :=
  ⟨.map [], World.ownsMap_made w P K ptrE, fun _ => rfl⟩
theorem MapIs.look {P : Program} {K T E : TypeId} {w : World} {b n : Nat} {ins : Int → Option Nat} (h : MapIs P K w b n ins) (L : Keyed P K) (hT : P.underlying T = some (.map K E)) (hz : (zeroValue E).run P w = .ok (.pointer none) w) (k : Int) (hk : keyOf P K (.int .i64 k) = some (.int .i64 k)) :
    (Instr.lookup T (.map (some b)) (.int .i64 k) true).run P w = .ok (.tuple #[optPtr (ins k), .bool (ins k).isSome]) w ∧ (Instr.lookup T (.map (some b)) (.int .i64 k) false).run P w = .ok (optPtr (ins k)) w := by
  obtain ⟨D, hD, hv⟩ := h
  obtain ⟨v, ps, h1, h2⟩ := hD.look_ok L hT hz (zd := .nil) (zp := []) rfl hk
  obtain ⟨v', ps', h1', h2'⟩ := hD.lookup L hT hz (zd := .nil) (zp := []) rfl hk
  have := hv k
  cases hi : ins k with
  | none =>
    rw [hi] at this
    simp only at this
    rw [Maps.atKey_of_not_has this] at h2 h2'
    have e := ptrE_nil h2
    have e' := ptrE_nil h2'
    subst e e'
    rw [this] at h1
    exact ⟨h1, h1'⟩
  | some p =>
    rw [hi] at this
    simp only at this
    rw [this.2] at h2 h2'
    have e := ptrE_inv h2
    have e' := ptrE_inv h2'
    subst e e'
    rw [this.1] at h1
    exact ⟨h1, h1'⟩
theorem isKey_int (k : Int) : WideAt.IsKeyLit (.int .i64 k) := by trivial
theorem lit_ne {a b : Int} (h : a ≠ b) : (Lit.int .i64 a) ≠ .int .i64 b := fun e => h (by cases e; rfl)
theorem MapIs.put {P : Program} {K T E : TypeId} {w : World} {b n : Nat} {ins : Int → Option Nat} (h : MapIs P K w b n ins) (L : Keyed P K) (hT : P.underlying T = some (.map K E)) (hn : n < maxLen) (k : Int) (hk : keyOf P K (.int .i64 k) = some (.int .i64 k)) (p : Nat) :
    ∃ w', (Instr.mapUpdate T (.map (some b)) (.int .i64 k) (ptr p)).run P w = .ok () w' ∧ MapIs P K w' b (n + 1) (fun x => if x = k then some p else ins x) ∧ Only (· = b) w w' := by
  obtain ⟨D, hD, hv⟩ := h
  obtain ⟨w', h1, h2, h3⟩ := hD.update L hT hn hk (ptrE_mk p)
  refine ⟨w', h1, ⟨_, h2, fun x => ?_⟩, (Only.of_grown h3).mono (fun i hi => by simpa using hi)⟩
  by_cases hx : x = k
  · subst hx
    simp only [if_true]
    exact ⟨Maps.has_put_same hD.isMap (isKey_int x) _, Maps.atKey_put_same hD.isMap (isKey_int x) _ _⟩
  · simp only [if_neg hx]
    have := hv x
    cases hi : ins x with
    | none => rw [hi] at this; simp only at this ⊢; rw [Maps.has_put_other (lit_ne hx)]; exact this
    | some q => rw [hi] at this; simp only at this ⊢; rw [Maps.has_put_other (lit_ne hx), Maps.atKey_put_other (lit_ne hx)]; exact this
theorem MapIs.del {P : Program} {K T E : TypeId} {w : World} {b n : Nat} {ins : Int → Option Nat} (h : MapIs P K w b n ins) (L : Keyed P K) (hT : P.underlying T = some (.map K E)) (k : Int) (hk : keyOf P K (.int .i64 k) = some (.int .i64 k)) (ty : TypeId) :
    ∃ w', (Builtin.delete_ #[T, K] ty #[.map (some b), .int .i64 k]).run P w = .ok (.tuple #[]) w' ∧ MapIs P K w' b n (fun x => if x = k then none else ins x) ∧ Only (· = b) w w' := by
  obtain ⟨D, hD, hv⟩ := h
  obtain ⟨w', h1, h2, h3⟩ := hD.drop L hT hk ty
  refine ⟨w', h1, ⟨_, h2, fun x => ?_⟩, (Only.of_grown h3.grown).mono (fun i hi => by simpa using hi)⟩
  by_cases hx : x = k
  · subst hx
    simp only [if_true]
    exact Maps.has_del_same
  · simp only [if_neg hx]
    have := hv x
    cases hi : ins x with
    | none => rw [hi] at this; simp only at this ⊢; rw [Maps.has_del_other (lit_ne hx)]; exact this
    | some q => rw [hi] at this; simp only at this ⊢; rw [Maps.has_del_other (lit_ne hx), Maps.atKey_del_other (lit_ne hx)]; exact this
end Go.Proofs.YtbkpdapagfjmmaaGreatDoor
