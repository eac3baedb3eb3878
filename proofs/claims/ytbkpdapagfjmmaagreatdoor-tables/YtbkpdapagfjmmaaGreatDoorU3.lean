/-
  Walks: NewTable, Entries, Squeeze.
-/
import Derived.Test.YtbkpdapagfjmmaaGreatDoorU2
namespace Go.Proofs.YtbkpdapagfjmmaaGreatDoor
open Go.RowKit

theorem newShelf_any (n : Int) (w : World) : Calls Tryz.prog 125 #[.int .i64 n, weighV] w fun e w' => e = .returned (.agg #[weighV, .int .i64 n, .slice none 0 0]) ∧ Below w.heap.size w w' := by
  go_enter Tryz.func125, Tryz.ntmps125
  go_wp2_with fail
  exact bodyPost_ret (v := .agg #[weighV, .int .i64 n, .slice none 0 0]) (by simp [results, Tryz.results125, go_sem]) rfl ⟨rfl, by ((repeat' (first | exact Below.refl _ _ | assumption | apply Below.drew | apply Below.alloc | apply Below.setCell)) <;> (simp <;> omega))⟩

theorem newTable_val (n : Int) (w : World) : Calls Tryz.prog 78 #[.int .i64 n] w fun e w' => e = .returned (.agg #[weighV, .int .i64 n, .slice none 0 0]) ∧ Below w.heap.size w w' := by
  have HX := hide (Is.new w 90 [.nilFunc, .int .i64 0, .slice none 0 0])
  have HB := hide ((Below.refl w.heap.size w).alloc (Nat.le_refl _) (.cells #[.nilFunc, .int .i64 0, .slice none 0 0] 90))
  go_enter Tryz.func78, Tryz.ntmps78
  go_wp2_with fail
  refine (newShelf_any _ _).mono ?_
  rintro e w1 ⟨rfl, hb⟩
  have hX1 := (unhide HX).below hb (by simp)
  have hbel := (unhide HB).trans (hb.mono (by simp))
  have n0 := hX1.cell 0
  have n1 := hX1.cell 1
  have n2 := hX1.cell 2
  have g0 := hX1.free 0
  have g1 := hX1.free 1
  have g2 := hX1.free 2
  have hl := hX1.lt
  simp only [List.getElem?_cons_zero, List.getElem?_cons_succ] at n0 n1 n2
  clear hb hX1
  go_wp2_with fail
  exact bodyPost_ret (v := .agg #[weighV, .int .i64 n, .slice none 0 0]) (by simp [results, Tryz.results78, go_sem, n0, n1, n2]) rfl ⟨rfl, ((hbel.setCell (by simp) _).setCell (by simp) _).setCell (by simp) _⟩

theorem newTable_ok (B : Nat) (hB : B ≤ 200) (w : World) :
    Calls Tryz.prog 52 #[.int .i64 B] w fun e w' => ∃ t, e = .returned (.tuple #[.pointer (some ⟨t, 0, none⟩), .int .i64 0]) ∧ w.heap.size ≤ t ∧ Tab w' t B [] (.slice none 0 0) ∧ Below w.heap.size w w' := by
  have h1 : ¬ (B : Int) < 0 := by omega
  have h2 : ¬ 200 < (B : Int) := by omega
  go_enter Tryz.func52, Tryz.ntmps52
  go_wp2_with fail
  refine (newTable_val _ _).mono ?_
  rintro e w1 ⟨rfl, hb⟩
  have hs := hb.size
  go_wp2_with fail
  go_ret2
  exact ⟨_, rfl, hs, ⟨by simpa [Lk.weights] using Is.new w1 90 [weighV, .int .i64 B, .slice none 0 0], World.ownsRow_nil _ _ _ _, by simp [Lk.weights], hB⟩, hb.alloc hs _⟩

theorem newTable_bad (n : Int) (hn : n < 0 ∨ 200 < n) (w : World) :
    Calls Tryz.prog 52 #[.int .i64 n] w fun e w' => e = .returned (.tuple #[.pointer none, .int .i64 1]) ∧ Below w.heap.size w w' := by
  by_cases h1 : n < 0
  · go_enter Tryz.func52, Tryz.ntmps52
    go_wp2_with fail
    go_ret2
    exact ⟨rfl, Below.refl _ _⟩
  · have h2 : 200 < n := by omega
    go_enter Tryz.func52, Tryz.ntmps52
    go_wp2_with fail
    go_ret2
    exact ⟨rfl, Below.refl _ _⟩

theorem entries_any (t B : Nat) (L : List Lk.Hd) (v : Value) (w : World) (hT : Tab w t B L v) :
    Calls Tryz.prog 100 #[.pointer (some ⟨t, 0, none⟩)] w fun e w' => ∃ v', e = .returned v' ∧ w'.ownsRow w.heap.size 112 2 v' L.length (hdsV L) ∧ Below w.heap.size w w' := by
  have hlen := Lk.weights_len L
  have h1 := hT.le
  have h2 := hT.hB
  have c2 := hT.blk.cell 2
  simp only [List.getElem?_cons_zero, List.getElem?_cons_succ] at c2
  have HO := hide hT.own
  clear hT
  go_enter Tryz.func100, Tryz.ntmps100
  go_wp2_with fail
  refine (clone_hds 0 v L _ (by omega) (unhide HO)).mono ?_
  rintro e w1 ⟨v', rfl, ho, hb⟩
  go_wp2_with fail
  go_ret
  exact ⟨_, rfl, ho, hb⟩

theorem squeezeCall_bad (t B1 : Nat) (l : List Lk.Hd) (lv : Value) (w : World) (hw : (Lk.wrong l).1 ≠ 0) (own : w.ownsRow B1 112 2 lv l.length (hdsV l)) :
    Calls Tryz.prog 59 #[.pointer (some ⟨t, 0, none⟩), lv] w fun e w' =>
      e = .returned (.tuple #[.string ⟨#[]⟩, .int .i64 (Lk.wrong l).1, .int .i64 (Lk.wrong l).2]) ∧ Below w.heap.size w w' := by
  have HO := hide own
  clear own
  generalize hE1 : (Lk.wrong l).1 = E at hw ⊢
  have hE : ((E : Int) != 0) = true := by rw [bne_iff_ne]; omega
  have HE := hide hE1
  clear hE1
  go_enter Tryz.func59, Tryz.ntmps59
  go_wp2_with fail
  refine (askHeaders_any B1 lv l _ (unhide HO)).mono ?_
  rintro e w1 ⟨he, hb⟩
  rw [unhide HE] at he
  subst he
  go_wp2_with fail
  go_ret3
  exact ⟨rfl, hb⟩

/-- A block of headers that are right, by whatever slice. -/
theorem squeeze_any (t B B1 : Nat) (L l : List Lk.Hd) (v lv : Value) (w : World) (hT : Tab w t B L v) (hfx : Fx w) (ht0 : t ≠ 0) (hw : (Lk.wrong l).1 = 0) (own : w.ownsRow B1 112 2 lv l.length (hdsV l)) :
    Calls Tryz.prog 82 #[.pointer (some ⟨t, 0, none⟩), lv] w fun e w' => e = .returned (.string (bs (Lk.squeeze B L l).1)) ∧ (∃ v', Tab w' t B (Lk.squeeze B L l).2 v' ∧ NewOr w.heap.size v v') ∧ Turns t w w' := by
  have hlg := Lk.wrong_ok hw
  rcases owned_hds own with ⟨rfl, rfl⟩ | ⟨g, cap, rfl, _, hg, hcap, _⟩
  · refine (squeeze_none t 0 none w).mono ?_
    rintro e w2 ⟨rfl, hb2⟩
    exact ⟨rfl, ⟨v, hT.below hb2, .inl rfl⟩, Below.turns hb2 t⟩
  · by_cases hl0 : 0 < l.length
    · exact squeeze_some t B g cap B1 L l v w hT hfx ht0 hlg.1 hl0 hlg.2 own
    · have : l = [] := List.eq_nil_of_length_eq_zero (by omega)
      subst this
      refine (squeeze_none t cap _ w).mono ?_
      rintro e w2 ⟨rfl, hb2⟩
      exact ⟨rfl, ⟨v, hT.below hb2, .inl rfl⟩, Below.turns hb2 t⟩

theorem squeezeCall_ok (t B B1 : Nat) (L l : List Lk.Hd) (v lv : Value) (w : World) (hT : Tab w t B L v) (hfx : Fx w) (ht0 : t ≠ 0) (hw : (Lk.wrong l).1 = 0) (own : w.ownsRow B1 112 2 lv l.length (hdsV l)) :
    Calls Tryz.prog 59 #[.pointer (some ⟨t, 0, none⟩), lv] w fun e w' =>
      e = .returned (.tuple #[.string (bs (Lk.squeeze B L l).1), .int .i64 0, .int .i64 0]) ∧ (∃ v', Tab w' t B (Lk.squeeze B L l).2 v') ∧ Turns t w w' := by
  have HO := hide own
  have HT := hide hT
  have HFX := hide hfx
  have h0 := hfx.1
  clear own hT hfx
  generalize hS : bs (Lk.squeeze B L l).1 = S
  have HS := hide hS
  clear hS
  go_enter Tryz.func59, Tryz.ntmps59
  go_wp2_with fail
  refine (askHeaders_any B1 lv l _ (unhide HO)).mono ?_
  rintro e w1 ⟨he, hb⟩
  rw [hw] at he
  subst he
  have hcall : Calls Tryz.prog 82 #[.pointer (some ⟨t, 0, none⟩), lv] w1 fun e w' => e = .returned (.string S) ∧ (∃ v', Tab w' t B (Lk.squeeze B L l).2 v') ∧ Turns t w1 w' := by
    refine (squeeze_any t B B1 L l v lv w1 ((unhide HT).below hb) ((unhide HFX).below hb h0) ht0 hw (own_below (unhide HO) hb)).mono ?_
    rintro e w2 ⟨rfl, ⟨v', h1, _⟩, h2⟩
    exact ⟨by rw [unhide HS], ⟨v', h1⟩, h2⟩
  have HC := hide hcall
  clear hcall
  go_wp2_with fail
  refine (unhide HC).mono ?_
  rintro e w2 ⟨rfl, hv2, hT2⟩
  go_wp2_with fail
  go_ret3
  exact ⟨rfl, hv2, (Below.turns hb t).trans hT2⟩
end Go.Proofs.YtbkpdapagfjmmaaGreatDoor
