/-
  Walks: what a table keeps: its entries.
-/
import Derived.Test.YtbkpdapagfjmmaaGreatDoorSpec5
import Derived.Test.YtbkpdapagfjmmaaGreatDoorW0
import Derived.Test.YtbkpdapagfjmmaaGreatDoorProg
import Derived.Deep.RegionWith
namespace Go.Proofs.YtbkpdapagfjmmaaGreatDoor
open Go.RowKit

def bs (l : Lk.Bs) : ByteArray := ⟨l.toArray⟩
def hdV (h : Lk.Hd) : List Value := [.string (bs h.n), .string (bs h.v)]
def hdsV (l : List Lk.Hd) : List Value := l.flatMap hdV
abbrev hdA (h : Lk.Hd) : Value := .agg #[.string (bs h.n), .string (bs h.v)]
theorem bs_size (l : Lk.Bs) : (bs l).size = l.length := by simp [bs, ByteArray.size]

theorem hdsV_len (l : List Lk.Hd) : (hdsV l).length = l.length * 2 := by
  induction l with
  | nil => rfl
  | cons f fs ih => simp only [hdsV, List.flatMap_cons, List.length_append, hdV, List.length_cons, List.length_nil] at ih ⊢; omega
theorem hdsV_at (l : List Lk.Hd) : ∀ (i : Nat) (x : Lk.Hd), l[i]? = some x → (hdsV l)[i * 2]? = some (.string (bs x.n)) ∧ (hdsV l)[i * 2 + 1]? = some (.string (bs x.v)) := by
  induction l with
  | nil => intro i x h; simp at h
  | cons f fs ih =>
    intro i x h
    cases i with
    | zero => simp at h; subst h; simp [hdsV, hdV]
    | succ i =>
      have := ih i x (by simpa using h)
      simp only [hdsV, List.flatMap_cons, hdV] at this ⊢
      have e : (i + 1) * 2 = i * 2 + 2 := by omega
      rw [e]
      simpa using this
theorem hdsV_append (a b : List Lk.Hd) : hdsV (a ++ b) = hdsV a ++ hdsV b := by simp [hdsV]

/-- What a slice of headers is, for the walk. -/
theorem owned_hds {w : World} {B : Nat} {T : TypeId} {v : Value} {l : List Lk.Hd} (h : w.ownsRow B T 2 v l.length (hdsV l)) :
    (l = [] ∧ v = .slice none 0 0) ∨ ∃ g cap, v = .slice (some ⟨g, 0, none⟩) l.length cap ∧ B ≤ g ∧ g < w.heap.size ∧ l.length ≤ cap ∧ ∀ (i : Nat) (x : Lk.Hd), l[i]? = some x → w.cell? ⟨g, i * 2, none⟩ = some (.string (bs x.n)) ∧ w.cell? ⟨g, i * 2 + 1, none⟩ = some (.string (bs x.v)) := by
  rcases h.2 with ⟨rfl, h0⟩ | ⟨g, cap, cur, rfl, hB, hg, hn, hc, hs, ht⟩
  · exact .inl ⟨List.eq_nil_of_length_eq_zero h0, rfl⟩
  · have hI : Is w g T cur.toList := by unfold Is; simpa using hg
    refine .inr ⟨g, cap, rfl, hB, hI.lt, hn, fun i x hx => ?_⟩
    have e := hdsV_at l i x hx
    have hi : i < l.length := by
      rcases Nat.lt_or_ge i l.length with h | h
      · exact h
      · rw [List.getElem?_eq_none h] at hx; cases hx
    have hc : ∀ j, j < l.length * 2 → w.cell? ⟨g, j, none⟩ = (hdsV l)[j]? := by
      intro j hj
      rw [hI.cell j, ← ht, List.getElem?_take_of_lt hj]
    rw [hc _ (by omega), hc _ (by omega)]
    exact e

theorem row_at2 {w : World} {B g n cap i : Nat} {T : TypeId} {l : List Lk.Hd} {x : Lk.Hd} (h : w.ownsRow B T 2 (.slice (some ⟨g, 0, none⟩) n cap) n (hdsV l)) (hx : l[i]? = some x) :
    g < w.heap.size ∧ w.cell? ⟨g, i * 2, none⟩ = some (.string (bs x.n)) ∧ w.cell? ⟨g, i * 2 + 1, none⟩ = some (.string (bs x.v)) := by
  have hn : n = l.length := by have := h.1; rw [hdsV_len] at this; omega
  subst hn
  rcases owned_hds h with ⟨_, h⟩ | ⟨g', cap', h, _, hg, _, hc⟩
  · cases h
  · cases h
    exact ⟨hg, hc i x hx⟩
/-- The first four entries lie where they were laid. -/
def Fx (w : World) : Prop := 0 < w.heap.size ∧ ∀ (i : Nat) (x : Lk.Hd), Lk.fixedL[i]? = some x → w.cell? ⟨0, i * 2, none⟩ = some (.string (bs x.n)) ∧ w.cell? ⟨0, i * 2 + 1, none⟩ = some (.string (bs x.v))
theorem Fx.below {w w' : World} {B : Nat} (h : Fx w) (hb : Below B w w') (hB : 0 < B) : Fx w' :=
  ⟨Nat.lt_of_lt_of_le h.1 hb.size, fun i x hx => by rw [hb.cell (p := ⟨0, _, none⟩) hB, hb.cell (p := ⟨0, _, none⟩) hB]; exact h.2 i x hx⟩
theorem Fx.grown {w w' : World} {row : Option Nat} (h : Fx w) (hb : w.grownBy w' row) (hr : some 0 ≠ row) : Fx w' :=
  ⟨Nat.lt_of_lt_of_le h.1 hb.size, fun i x hx => by
    have e : ∀ k, w'.cell? ⟨0, k, none⟩ = w.cell? ⟨0, k, none⟩ := fun k => by simp only [World.cell?]; rw [hb.block 0 h.1 hr]
    rw [e, e]; exact h.2 i x hx⟩

theorem weight_any (h : Lk.Hd) (w : World) (hl : h.n.length ≤ 1000) (hv : h.v.length ≤ 1000) :
    Calls Tryz.prog 126 #[hdA h] w fun e w' => e = .returned (.int .i64 h.weight) ∧ Below w.heap.size w w' := by
  unfold hdA
  have h1 := bs_size h.n
  have h2 := bs_size h.v
  go_enter Tryz.func126, Tryz.ntmps126
  go_wp2_with fail
  go_ret
  refine ⟨ret_int ?_, (Below.refl _ _).alloc (Nat.le_refl _) _⟩
  simp [Lk.Hd.weight]

def zeroHd : Lk.Hd := ⟨[], []⟩
set_option maxRecDepth 100000 in
theorem entry_fixed (b o i : Nat) (x : Lk.Hd) (w : World) (hi : (i : Int) < 4) (hfx : Fx w) (hx : Lk.fixedL[i]? = some x) :
    Calls Tryz.prog 184 #[.pointer (some ⟨b, o, none⟩), .int .i64 i] w fun e w' => e = .returned (.tuple #[hdA x, .bool true]) ∧ Below w.heap.size w w' := by
  obtain ⟨h0, hc⟩ := hfx
  obtain ⟨c0, c1⟩ := hc i x hx
  clear hc hx
  have hi2 : i * 2 < 8 := by omega
  go_enter Tryz.func184, Tryz.ntmps184
  go_wp2_with fail
  exact bodyPost_ret (v := .tuple #[hdA x, .bool true]) (by simp [results, Tryz.results184, go_sem, hdA]) rfl ⟨rfl, by ((repeat' (first | exact Below.refl _ _ | assumption | apply Below.drew | apply Below.alloc | apply Below.setCell)) <;> (simp <;> omega))⟩
set_option maxRecDepth 100000 in
theorem entry_none (b o i : Nat) (n cap : Nat) (ad : Option Addr) (w : World) (hb : b < w.heap.size) (hi : ¬ (i : Int) < 4) (hiN : i ≤ 2 ^ 40) (hv : w.cell? ⟨b, o + 2, none⟩ = some (.slice ad n cap)) (hn : ¬ (i : Int) - 4 < n) :
    Calls Tryz.prog 184 #[.pointer (some ⟨b, o, none⟩), .int .i64 i] w fun e w' => e = .returned (.tuple #[hdA zeroHd, .bool false]) ∧ Below w.heap.size w w' := by
  go_enter Tryz.func184, Tryz.ntmps184
  go_wp2_with fail
  exact bodyPost_ret (v := .tuple #[hdA zeroHd, .bool false]) (by simp [results, Tryz.results184, go_sem, hdA, zeroHd, bs]) rfl ⟨rfl, by ((repeat' (first | exact Below.refl _ _ | assumption | apply Below.drew | apply Below.alloc | apply Below.setCell)) <;> (simp <;> omega))⟩
set_option maxRecDepth 100000 in
theorem entry_kept (b o i : Nat) (x : Lk.Hd) (n cap g : Nat) (w : World) (hb : b < w.heap.size) (hi : ¬ (i : Int) < 4) (hiN : i ≤ 2 ^ 40) (hv : w.cell? ⟨b, o + 2, none⟩ = some (.slice (some ⟨g, 0, none⟩) n cap)) (hn : (i : Int) - 4 < n) (hg : g < w.heap.size)
    (c0 : w.cell? ⟨g, (i - 4) * 2, none⟩ = some (.string (bs x.n))) (c1 : w.cell? ⟨g, (i - 4) * 2 + 1, none⟩ = some (.string (bs x.v))) :
    Calls Tryz.prog 184 #[.pointer (some ⟨b, o, none⟩), .int .i64 i] w fun e w' => e = .returned (.tuple #[hdA x, .bool true]) ∧ Below w.heap.size w w' := by
  go_enter Tryz.func184, Tryz.ntmps184
  go_wp2_with fail
  exact bodyPost_ret (v := .tuple #[hdA x, .bool true]) (by simp [results, Tryz.results184, go_sem, hdA]) rfl ⟨rfl, by ((repeat' (first | exact Below.refl _ _ | assumption | apply Below.drew | apply Below.alloc | apply Below.setCell)) <;> (simp <;> omega))⟩
end Go.Proofs.YtbkpdapagfjmmaaGreatDoor
