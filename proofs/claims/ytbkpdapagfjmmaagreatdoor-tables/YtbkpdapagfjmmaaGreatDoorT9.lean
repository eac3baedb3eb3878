/-
  Walks: a header is cloned; a text is appended.
-/
import Derived.Test.YtbkpdapagfjmmaaGreatDoorT8
import Derived.Test.YtbkpdapagfjmmaaGreatDoorW6
import Derived.Test.YtbkpdapagfjmmaaGreatDoorR1
namespace Go.Proofs.YtbkpdapagfjmmaaGreatDoor
open Go.RowKit
attribute [local go_sem ↓] Go.wp_at_zero Go.wp_at_succ

theorem cloneBs (l : Lk.Bs) (w : World) (h : l.length ≤ 1000) : Calls Tryz.prog 70 #[.string (bs l)] w fun e w' => e = .returned (.string (bs l)) ∧ Below w.heap.size w w' :=
  clone_any (bs l) w (by rw [bs_size]; exact h)

/-- Two boxes of two cells are as they were, and nothing old has turned. -/
def Kq (w0 : World) (H : Nat) (a b c d : Value) (W : World) : Prop :=
  W.cell? ⟨H, 0, none⟩ = some a ∧ W.cell? ⟨H, 1, none⟩ = some b ∧ W.cell? ⟨H + 1, 0, none⟩ = some c ∧ W.cell? ⟨H + 1, 1, none⟩ = some d ∧ W.frozen? ⟨H + 1, 0, none⟩ = false ∧ W.frozen? ⟨H + 1, 1, none⟩ = false ∧ H + 1 < W.heap.size ∧ Below w0.heap.size w0 W
theorem Kq.call {w0 W w' : World} {H : Nat} {a b c d : Value} (h : Kq w0 H a b c d W) (hb : Below W.heap.size W w') : Kq w0 H a b c d w' := by
  obtain ⟨h1, h2, h3, h4, h5, h6, h7, h8⟩ := h
  exact ⟨call_keeps hb (by omega) h1, call_keeps hb (by omega) h2, call_keeps hb h7 h3, call_keeps hb h7 h4, call_free hb h7 h5, call_free hb h7 h6, call_lt hb h7, h8.trans (hb.mono h8.size)⟩
theorem Kq.of {f : Nat} {args : Array Value} {w0 W : World} {H : Nat} {a b c d r : Value} (h : Kq w0 H a b c d W) (hc : Calls Tryz.prog f args W fun e w' => e = .returned r ∧ Below W.heap.size W w') :
    Calls Tryz.prog f args W fun e w' => e = .returned r ∧ w'.cell? ⟨H, 0, none⟩ = some a ∧ w'.cell? ⟨H, 1, none⟩ = some b ∧ w'.cell? ⟨H + 1, 0, none⟩ = some c ∧ w'.cell? ⟨H + 1, 1, none⟩ = some d ∧ w'.frozen? ⟨H + 1, 0, none⟩ = false ∧ w'.frozen? ⟨H + 1, 1, none⟩ = false ∧ H + 1 < w'.heap.size ∧ Below w0.heap.size w0 w' :=
  hc.mono fun _ _ ⟨he, hb⟩ => ⟨he, h.call hb⟩

set_option maxHeartbeats 1000000 in
set_option maxRecDepth 100000 in
theorem hclone_any (h : Lk.Hd) (w : World) (hn : h.n.length ≤ 1000) (hv : h.v.length ≤ 1000) :
    Calls Tryz.prog 172 #[hdA h] w fun e w' => e = .returned (hdA h) ∧ Below w.heap.size w w' := by
  have k3 : Below w.heap.size w ((w.alloc (.cells #[.string (bs h.n), .string (bs h.v)] 112)).alloc (.cells #[.string ⟨#[]⟩, .string ⟨#[]⟩] 112)).drew := by ((repeat' (first | exact Below.refl _ _ | assumption | apply Below.drew | apply Below.alloc | apply Below.setCell)) <;> (simp <;> omega))
  go_enter Tryz.func172, Tryz.ntmps172
  go_wp2_with fail
  go_region_with (first
      | (go_at_call_of 70 (Value.string (bs h.n)); refine (Kq.of (w0 := w) (H := w.heap.size) (a := .string (bs h.n)) (b := .string (bs h.v)) (c := .string ⟨#[]⟩) (d := .string ⟨#[]⟩) ?_ (cloneBs h.n _ (by omega))).mono ?_; (first | exact ⟨q0, q1, q2, q3, q4, q5, q6, q7⟩ | exact ⟨by simp, by simp, by simp, by simp, by simp, by simp, by simp, k3⟩); rintro e w' ⟨rfl, q0, q1, q2, q3, q4, q5, q6, q7⟩)
      | (go_at_call_of 70 (Value.string (bs h.v)); refine (Kq.of (w0 := w) (H := w.heap.size) (a := .string (bs h.n)) (b := .string (bs h.v)) (c := .string ⟨#[]⟩) (d := .string ⟨#[]⟩) ?_ (cloneBs h.v _ (by omega))).mono ?_; (first | exact ⟨q0, q1, q2, q3, q4, q5, q6, q7⟩ | exact ⟨by simp, by simp, by simp, by simp, by simp, by simp, by simp, k3⟩); rintro e w' ⟨rfl, q0, q1, q2, q3, q4, q5, q6, q7⟩))
  all_goals
    go_wp2_with fail
    exact bodyPost_ret (v := hdA h) (by simp [results, Tryz.results172, go_sem, q2, q3]) rfl ⟨rfl, (q7.setCell (by simp) _).setCell (by simp) _⟩

set_option maxHeartbeats 1000000 in
set_option maxRecDepth 100000 in
theorem appendText_any (B : Nat) (v : Value) (xs : List UInt8) (l : Lk.Bs) (w : World) (hB : B ≤ w.heap.size) (ho : w.ownsRow B 5 1 v xs.length (bytesV xs)) (hl : xs.length ≤ 900) (hll : l.length ≤ 100) :
    Calls Tryz.prog 170 #[v, .string (bs l)] w fun e w' => ∃ v', e = .returned v' ∧ w'.ownsRow B 5 1 v' (xs ++ Lk.text l).length (bytesV (xs ++ Lk.text l)) ∧ Below B w w' ∧ KeepsT 5 w w' := by
  have hsz := bs_size l
  obtain ⟨i, hi, hz0, hz1, hz2⟩ := info_parts info_u8
  go_enter Tryz.func170, Tryz.ntmps170
  go_wp2_with fail
  refine (appendNumber_T B v xs l.length (by omega) _ hB ho (by omega)).mono ?_
  rintro e w1 ⟨v1, rfl, ho1, hb1, hk1⟩
  have hs1 := hb1.size
  have hwl := Lk.wire_len_le4 l.length (by omega)
  go_wp2_with (at_builtin; refine Lib.wpList_append_own_string _ rfl _ _ 78 9 rfl B 5 i Tryz.underlying78 Tryz.underlying9 hi hz0 hz1 hz2 _ _ _ rfl ho1 (bs l) rfl ?h63 ?hby ?hba ?_)
  case h63 => unfold maxLen; simp; omega
  case hby => simp; omega
  case hba => omega
  intro v4 w4 ho4 hg4 _
  go_wp2_with fail
  go_ret
  refine ⟨_, rfl, ?_, hb1.grown hg4 (by omega) (fun k hk => (ho1.lt k hk).1), hk1.grown hg4 ho1⟩
  rw [strCells_bytes, bs_list] at ho4
  have e : xs ++ Lk.text l = (xs ++ Lk.wire l.length) ++ l := by simp [Lk.text]
  rw [e]
  simpa [bytesV, Nat.add_assoc] using ho4
end Go.Proofs.YtbkpdapagfjmmaaGreatDoor
