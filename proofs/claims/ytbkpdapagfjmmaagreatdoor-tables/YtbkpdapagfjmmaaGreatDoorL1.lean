/-
  Walks: the document's tables: their entries.
-/
import Derived.Test.YtbkpdapagfjmmaaGreatDoorT3
import Derived.Test.YtbkpdapagfjmmaaGreatDoorM1
namespace Go.Proofs.YtbkpdapagfjmmaaGreatDoor
open Go.RowKit

theorem info_rh : (Tryz.prog.info? 206).map (fun i => (i.zero, i.size, i.bytes)) = some (some (.agg #[.string ⟨#[]⟩, .string ⟨#[]⟩]), 2, 32) := by kernel_rfl

/-- A table of the document's. -/
structure RTab (w : World) (t B : Nat) (L : List Lk.Hd) (v : Value) : Prop where
  blk : Is w t 196 [.int .i64 B, v]
  own : w.ownsRow 0 206 2 v L.length (hdsV L)
  le : Lk.weights L ≤ B
  hB : B ≤ 200

theorem RTab.below {w w' : World} {t B : Nat} {L : List Lk.Hd} {v : Value} (h : RTab w t B L v) (hb : Below w.heap.size w w') : RTab w' t B L v :=
  ⟨h.blk.below hb h.blk.lt, own_below h.own hb, h.le, h.hB⟩
theorem RTab.alloc {w : World} {t B : Nat} {L : List Lk.Hd} {v : Value} (h : RTab w t B L v) (o : Obj) : RTab (w.alloc o) t B L v :=
  ⟨h.blk.alloc o, h.own.alloc o, h.le, h.hB⟩
theorem RTab.len {w : World} {t B : Nat} {L : List Lk.Hd} {v : Value} (h : RTab w t B L v) : L.length ≤ 50 := by
  have := Lk.weights_len L
  have h1 := h.le
  have h2 := h.hB
  omega
theorem RTab.form {w : World} {t B : Nat} {L : List Lk.Hd} {v : Value} (h : RTab w t B L v) : ∃ a cap, v = .slice a L.length cap := by
  rcases h.own.2 with ⟨rfl, h0⟩ | ⟨g, cap, cur, rfl, _⟩
  · exact ⟨_, _, by rw [h0]⟩
  · exact ⟨_, _, rfl⟩
theorem RTab.at' {w : World} {t B i : Nat} {L : List Lk.Hd} {v : Value} {x : Lk.Hd} (h : RTab w t B L v) (hx : L[i]? = some x) :
    ∃ g cap, v = .slice (some ⟨g, 0, none⟩) L.length cap ∧ g < w.heap.size ∧ w.cell? ⟨g, i * 2, none⟩ = some (.string (bs x.n)) ∧ w.cell? ⟨g, i * 2 + 1, none⟩ = some (.string (bs x.v)) := by
  rcases owned_hds h.own with ⟨rfl, _⟩ | ⟨g, cap, rfl, _, hg, _, hc⟩
  · simp at hx
  · exact ⟨g, cap, rfl, hg, hc i x hx⟩

theorem own_base0 {w : World} {B : Nat} {e : TypeId} {size n : Nat} {v : Value} {xs : List Value} (h : w.ownsRow B e size v n xs) : w.ownsRow 0 e size v n xs := by
  refine ⟨h.1, ?_⟩
  rcases h.2 with h | ⟨g, cap, cur, h0, h1, h2⟩
  · exact .inl h
  · exact .inr ⟨g, cap, cur, h0, by omega, h2⟩

theorem row_form {w : World} {B : Nat} {e : TypeId} {size n : Nat} {v : Value} {xs : List Value} (h : w.ownsRow B e size v n xs) : ∃ a cap, v = .slice a n cap := by
  rcases h.2 with ⟨rfl, rfl⟩ | ⟨g, cap, cur, rfl, _⟩
  · exact ⟨_, _, rfl⟩
  · exact ⟨_, _, rfl⟩

theorem built_h1 (w : World) (T : TypeId) (x : Lk.Hd) : (w.alloc (.cells #[.string (bs x.n), .string (bs x.v)] T)).ownsRow w.heap.size T 2 (.slice (some ⟨w.heap.size, 0, none⟩) 1 1) 1 (hdV x) :=
  ⟨rfl, .inr ⟨w.heap.size, 1, _, rfl, Nat.le_refl _, heap_alloc_new w _, Nat.le_refl _, by unfold maxLen; omega, rfl, rfl⟩⟩

set_option maxRecDepth 100000 in
theorem rfixed_any (w : World) : Calls Tryz.prog 177 #[] w fun e w' => ∃ v', e = .returned v' ∧ w'.ownsRow w.heap.size 206 2 v' 4 (hdsV Lk.fixedL) ∧ Below w.heap.size w w' := by
  go_enter Tryz.func177, Tryz.ntmps177
  go_wp2_with fail
  go_ret
  exact ⟨_, rfl, ⟨rfl, .inr ⟨w.heap.size, 4, _, rfl, Nat.le_refl _, heap_alloc_new w _, Nat.le_refl _, by unfold maxLen; omega, rfl, rfl⟩⟩, (Below.refl _ _).alloc (Nat.le_refl _) _⟩

set_option maxHeartbeats 2000000 in
set_option maxRecDepth 100000 in
theorem rall_any (t B : Nat) (L : List Lk.Hd) (v : Value) (w : World) (hT : RTab w t B L v) :
    Calls Tryz.prog 150 #[.pointer (some ⟨t, 0, none⟩)] w fun e w' => ∃ v', e = .returned v' ∧ w'.ownsRow w.heap.size 206 2 v' (Lk.ents L).length (hdsV (Lk.ents L)) ∧ Below w.heap.size w w' := by
  obtain ⟨i, hi, hz0, hz1, hz2⟩ := info_parts info_rh
  have hL := hT.len
  obtain ⟨a, cap, hv⟩ := hT.form
  subst hv
  have HT := hide hT
  have htl := hT.blk.lt
  have hE := Lk.ents_len L
  generalize hEn : Lk.ents L = E at *
  have HEn := hide hEn
  have HE := hide hE
  clear hT hEn hE
  go_enter Tryz.func150, Tryz.ntmps150
  go_wp2_with fail
  refine (rfixed_any _).mono ?_
  rintro e w1 ⟨v1, rfl, ho1, hb1⟩
  have HO1 := hide ho1
  clear ho1
  go_wp2_with fail
  go_loopw [3, 4] (fun m u wr => ∃ k : Nat, u = .int .i64 k ∧ k ≤ L.length ∧ wr.ownsRow w.heap.size 206 2 m (4 + k) (hdsV (E.take (4 + k))) ∧ Below w.heap.size w wr) (fun _ u _ => L.length - (intOf u).toNat)
  case atStart =>
    refine ⟨0, rfl, by omega, ?_, hb1⟩
    have e : E.take (4 + 0) = Lk.fixedL := by rw [← unhide HEn]; rfl
    rw [e]
    exact unhide HO1
  case round =>
    obtain ⟨k, rfl, hk, hown, hbel⟩ := hrel
    have hsz := hbel.size
    have d1 := ((unhide HT).blk.below hbel htl).cell 1
    simp only [List.getElem?_cons_zero, List.getElem?_cons_succ] at d1
    have htr : t < wr.heap.size := by omega
    by_cases hlt : k < L.length
    · have hlt' : (k : Int) < L.length := by omega
      obtain ⟨x, hx⟩ : ∃ x, L[k]? = some x := ⟨_, List.getElem?_eq_getElem hlt⟩
      obtain ⟨g, cap', hform, hg, a0, a1⟩ := (unhide HT).at' hx
      cases hform
      have a0 : wr.cell? ⟨g, k * 2, none⟩ = some (.string (bs x.n)) := by rw [hbel.cell (p := ⟨g, k * 2, none⟩) hg]; exact a0
      have a1 : wr.cell? ⟨g, k * 2 + 1, none⟩ = some (.string (bs x.v)) := by rw [hbel.cell (p := ⟨g, k * 2 + 1, none⟩) hg]; exact a1
      have hgr : g < wr.heap.size := by omega
      have HX := hide hx
      clear hx
      go_wp2_with (at_builtin; refine wpList_append_own _ rfl _ _ 154 rfl w.heap.size 206 i _ 2 32 Tryz.underlying154 hi hz0 hz1 hz2 rfl (by decide) _ (4 + k) (hdsV (E.take (4 + k))) rfl (hown.alloc _) ⟨wr.heap.size, 0, none⟩ 1 1 (hdV x) rfl rfl ?hnews ?h1 ?h63 ?hby ?hba ?_)
      case hnews => exact row_cells (built_h1 wr _ x)
      case h1 => simp [hdV, Value.oneCell']
      case h63 => unfold maxLen; omega
      case hby => omega
      case hba => simp; omega
      intro v' w' ho' hg' hn'
      have hb' := (hbel.alloc hsz _).grown hg' (by simp; omega) (fun k hk => (hown.lt k hk).1)
      have ho2 : w'.ownsRow w.heap.size 206 2 v' (4 + (k + 1)) (hdsV (E.take (4 + (k + 1)))) := by
        have hEx : E[4 + k]? = some x := by rw [← unhide HEn]; unfold Lk.ents; rw [List.getElem?_append_right (by simp [Lk.fixedL])]; simpa [Lk.fixedL] using unhide HX
        have e : E.take (4 + (k + 1)) = E.take (4 + k) ++ [x] := by rw [← Nat.add_assoc, List.take_add_one, hEx]; rfl
        rw [e, hdsV_append]
        simpa [hdsV, Nat.add_assoc] using ho'
      clear ho' hg' hown hbel a0 a1
      go_wp2_with fail
      go_roundw
      case rel => exact ⟨k + 1, by simp, by omega, ho2, hb'⟩
      case measure => simp [intOf]; omega
    · have hlt' : ¬ (k : Int) < L.length := by omega
      have ho2 : wr.ownsRow w.heap.size 206 2 u3 E.length (hdsV E) := by
        have e : 4 + k = E.length := by have := unhide HE; omega
        rw [e, List.take_length] at hown
        exact hown
      clear hown
      go_wp2_with fail
      go_ret
      exact ⟨_, rfl, ho2, hbel⟩

set_option maxHeartbeats 2000000 in
set_option maxRecDepth 100000 in
theorem rcopied_any (t B : Nat) (L : List Lk.Hd) (v : Value) (w : World) (hT : RTab w t B L v) :
    Calls Tryz.prog 104 #[.pointer (some ⟨t, 0, none⟩)] w fun e w' => ∃ u, e = .returned (.pointer (some ⟨u, 0, none⟩)) ∧ w.heap.size ≤ u ∧ (∃ v', RTab w' u B L v' ∧ ∀ k, v'.ownBlock = some k → w.heap.size ≤ k) ∧ Below w.heap.size w w' := by
  obtain ⟨i, hi, hz0, hz1, hz2⟩ := info_parts info_rh
  have hL := hT.len
  obtain ⟨a, cap, hv⟩ := hT.form
  subst hv
  have HT := hide hT
  have htl := hT.blk.lt
  clear hT
  go_enter Tryz.func104, Tryz.ntmps104
  go_wp2_with fail
  go_loopw [3, 4] (fun m u wr => ∃ k : Nat, u = .int .i64 k ∧ k ≤ L.length ∧ wr.ownsRow w.heap.size 206 2 m k (hdsV (L.take k)) ∧ Below w.heap.size w wr) (fun _ u _ => L.length - (intOf u).toNat)
  case atStart => exact ⟨0, rfl, by omega, World.ownsRow_nil _ _ _ _, Below.refl _ _⟩
  case round =>
    obtain ⟨k, rfl, hk, hown, hbel⟩ := hrel
    have hsz := hbel.size
    have d0 := ((unhide HT).blk.below hbel htl).cell 0
    have d1 := ((unhide HT).blk.below hbel htl).cell 1
    simp only [List.getElem?_cons_zero, List.getElem?_cons_succ] at d0 d1
    have htr : t < wr.heap.size := by omega
    by_cases hlt : k < L.length
    · have hlt' : (k : Int) < L.length := by omega
      obtain ⟨x, hx⟩ : ∃ x, L[k]? = some x := ⟨_, List.getElem?_eq_getElem hlt⟩
      obtain ⟨g, cap', hform, hg, a0, a1⟩ := (unhide HT).at' hx
      cases hform
      have a0 : wr.cell? ⟨g, k * 2, none⟩ = some (.string (bs x.n)) := by rw [hbel.cell (p := ⟨g, k * 2, none⟩) hg]; exact a0
      have a1 : wr.cell? ⟨g, k * 2 + 1, none⟩ = some (.string (bs x.v)) := by rw [hbel.cell (p := ⟨g, k * 2 + 1, none⟩) hg]; exact a1
      have hgr : g < wr.heap.size := by omega
      have HX := hide hx
      clear hx
      go_wp2_with (at_builtin; refine wpList_append_own _ rfl _ _ 154 rfl w.heap.size 206 i _ 2 32 Tryz.underlying154 hi hz0 hz1 hz2 rfl (by decide) _ k (hdsV (L.take k)) rfl (hown.alloc _) ⟨wr.heap.size, 0, none⟩ 1 1 (hdV x) rfl rfl ?hnews ?h1 ?h63 ?hby ?hba ?_)
      case hnews => exact row_cells (built_h1 wr _ x)
      case h1 => simp [hdV, Value.oneCell']
      case h63 => unfold maxLen; omega
      case hby => omega
      case hba => simp; omega
      intro v' w' ho' hg' hn'
      have hb' := (hbel.alloc hsz _).grown hg' (by simp; omega) (fun k hk => (hown.lt k hk).1)
      have ho2 : w'.ownsRow w.heap.size 206 2 v' (k + 1) (hdsV (L.take (k + 1))) := by
        have e : L.take (k + 1) = L.take k ++ [x] := by rw [List.take_add_one, unhide HX]; rfl
        rw [e, hdsV_append]
        simpa [hdsV] using ho'
      clear ho' hg' hown hbel a0 a1
      go_wp2_with fail
      go_roundw
      case rel => exact ⟨k + 1, by simp, by omega, ho2, hb'⟩
      case measure => simp [intOf]; omega
    · have hlt' : ¬ (k : Int) < L.length := by omega
      have ho2 : wr.ownsRow w.heap.size 206 2 u3 L.length (hdsV L) := by
        have e : k = L.length := by omega
        rw [e, List.take_length] at hown
        exact hown
      obtain ⟨a3, c3, h3⟩ := row_form ho2
      subst h3
      have HO2 := hide ho2
      clear hown ho2
      go_wp2_with fail
      go_ret
      refine ⟨_, rfl, hsz, ⟨.slice a3 L.length c3, ⟨Is.new wr 196 [.int .i64 B, .slice a3 L.length c3], own_base0 ((unhide HO2).alloc _), (unhide HT).le, (unhide HT).hB⟩, fun q hq => ((unhide HO2).lt q hq).1⟩, hbel.alloc hsz _⟩
end Go.Proofs.YtbkpdapagfjmmaaGreatDoor
