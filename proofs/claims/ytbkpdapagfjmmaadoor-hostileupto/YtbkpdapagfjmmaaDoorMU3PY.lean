import Derived.Test.YtbkpdapagfjmmaaDoorMU2PV
import Derived.Deep.AppendLies
/-
  Walks: NewTable, Entries, Squeeze.
-/
namespace Go.Proofs.YtbkpdapagfjmmaaDoor
open Go.RowKit

theorem newShelf_any (n : Int) (w : World) : Calls Tryd.prog 28 #[.int .i64 n, weighV] w fun e w' => e = .returned (.agg #[weighV, .int .i64 n, .slice none 0 0]) ∧ Below w.heap.size w w' := by
  go_enter Tryd.func28, Tryd.ntmps28
  go_wp2_with fail
  exact bodyPost_ret (v := .agg #[weighV, .int .i64 n, .slice none 0 0]) (by simp [results, Tryd.results28, go_sem]) rfl ⟨rfl, by ((repeat' (first | exact Below.refl _ _ | assumption | apply Below.drew | apply Below.alloc | apply Below.setCell)) <;> (simp <;> omega))⟩

theorem newTable_val (n : Int) (w : World) : Calls Tryd.prog 19 #[.int .i64 n] w fun e w' => e = .returned (.agg #[weighV, .int .i64 n, .slice none 0 0]) ∧ Below w.heap.size w w' := by
  have HX := hide (Is.new w 60 [.nilFunc, .int .i64 0, .slice none 0 0])
  have HB := hide ((Below.refl w.heap.size w).alloc (Nat.le_refl _) (.cells #[.nilFunc, .int .i64 0, .slice none 0 0] 60))
  go_enter Tryd.func19, Tryd.ntmps19
  go_wp2_with fail
  refine (newShelf_any _ _).mono ?_
  rintro e w1 ⟨rfl, hb⟩
  have hX1 := (unhide HX).below hb (by simp)
  have hbel := (unhide HB).trans (hb.mono (by simp))
  have n0 := hX1.cell 0
  have n1 := hX1.cell 1
  have n2 := hX1.cell 2
  have g0 := hX1.free 0
  have g1 := hX1.free 1
  have g2 := hX1.free 2
  have hl := hX1.lt
  simp only [List.getElem?_cons_zero, List.getElem?_cons_succ] at n0 n1 n2
  clear hb hX1
  go_wp2_with fail
  exact bodyPost_ret (v := .agg #[weighV, .int .i64 n, .slice none 0 0]) (by simp [results, Tryd.results19, go_sem, n0, n1, n2]) rfl ⟨rfl, ((hbel.setCell (by simp) _).setCell (by simp) _).setCell (by simp) _⟩

theorem newTable_ok (B : Nat) (hB : B ≤ 200) (w : World) :
    Calls Tryd.prog 6 #[.int .i64 B] w fun e w' => ∃ t, e = .returned (.tuple #[.pointer (some ⟨t, 0, none⟩), .int .i64 0]) ∧ w.heap.size ≤ t ∧ Tab w' t B [] (.slice none 0 0) ∧ Below w.heap.size w w' := by
  have h1 : ¬ (B : Int) < 0 := by omega
  have h2 : ¬ 200 < (B : Int) := by omega
  go_enter Tryd.func6, Tryd.ntmps6
  go_wp2_with fail
  refine (newTable_val _ _).mono ?_
  rintro e w1 ⟨rfl, hb⟩
  have hs := hb.size
  go_wp2_with fail
  go_ret2
  exact ⟨_, rfl, hs, ⟨by simpa [Lk.weights] using Is.new w1 60 [weighV, .int .i64 B, .slice none 0 0], World.ownsRow_nil _ _ _ _, by simp [Lk.weights], hB⟩, hb.alloc hs _⟩

theorem newTable_bad (n : Int) (hn : n < 0 ∨ 200 < n) (w : World) :
    Calls Tryd.prog 6 #[.int .i64 n] w fun e w' => e = .returned (.tuple #[.pointer none, .int .i64 1]) ∧ Below w.heap.size w w' := by
  by_cases h1 : n < 0
  · go_enter Tryd.func6, Tryd.ntmps6
    go_wp2_with fail
    go_ret2
    exact ⟨rfl, Below.refl _ _⟩
  · have h2 : 200 < n := by omega
    go_enter Tryd.func6, Tryd.ntmps6
    go_wp2_with fail
    go_ret2
    exact ⟨rfl, Below.refl _ _⟩

theorem entries_any (t B : Nat) (L : List Lk.Hd) (v : Value) (w : World) (hT : Tab w t B L v) :
    Calls Tryd.prog 9 #[.pointer (some ⟨t, 0, none⟩)] w fun e w' => ∃ v', e = .returned v' ∧ w'.ownsRow w.heap.size 44 2 v' L.length (hdsV L) ∧ Below w.heap.size w w' := by
  have hlen := Lk.weights_len L
  have h1 := hT.le
  have h2 := hT.hB
  have c2 := hT.blk.cell 2
  simp only [List.getElem?_cons_zero, List.getElem?_cons_succ] at c2
  have HO := hide hT.own
  clear hT
  go_enter Tryd.func9, Tryd.ntmps9
  go_wp2_with fail
  refine (clone_hds 0 v L _ (by omega) (unhide HO)).mono ?_
  rintro e w1 ⟨v', rfl, ho, hb⟩
  go_wp2_with fail
  go_ret
  exact ⟨_, rfl, ho, hb⟩

theorem squeezeCall_bad (t B1 : Nat) (l : List Lk.Hd) (lv : Value) (w : World) (hw : (Lk.wrong l).1 ≠ 0) (own : w.ownsRow B1 44 2 lv l.length (hdsV l)) :
    Calls Tryd.prog 13 #[.pointer (some ⟨t, 0, none⟩), lv] w fun e w' =>
      e = .returned (.tuple #[.string ⟨#[]⟩, .int .i64 (Lk.wrong l).1, .int .i64 (Lk.wrong l).2]) ∧ Below w.heap.size w w' := by
  have HO := hide own
  clear own
  generalize hE1 : (Lk.wrong l).1 = E at hw ⊢
  have hE : ((E : Int) != 0) = true := by rw [bne_iff_ne]; omega
  have HE := hide hE1
  clear hE1
  go_enter Tryd.func13, Tryd.ntmps13
  go_wp2_with fail
  refine (askHeaders_any B1 lv l _ (unhide HO)).mono ?_
  rintro e w1 ⟨he, hb⟩
  rw [unhide HE] at he
  subst he
  go_wp2_with fail
  go_ret3
  exact ⟨rfl, hb⟩

/-- A block of headers that are right, by whatever slice. -/
theorem squeeze_any (t B B1 : Nat) (L l : List Lk.Hd) (v lv : Value) (w : World) (hT : Tab w t B L v) (hfx : Fx w) (ht0 : t ≠ 0) (hw : (Lk.wrong l).1 = 0) (own : w.ownsRow B1 44 2 lv l.length (hdsV l)) :
    Calls Tryd.prog 23 #[.pointer (some ⟨t, 0, none⟩), lv] w fun e w' => e = .returned (.string (bs (Lk.squeeze B L l).1)) ∧ (∃ v', Tab w' t B (Lk.squeeze B L l).2 v' ∧ NewOr w.heap.size v v') ∧ Turns t w w' := by
  have hlg := Lk.wrong_ok hw
  rcases owned_hds own with ⟨rfl, rfl⟩ | ⟨g, cap, rfl, _, hg, hcap, _⟩
  · refine (squeeze_none t 0 none w).mono ?_
    rintro e w2 ⟨rfl, hb2⟩
    exact ⟨rfl, ⟨v, hT.below hb2, .inl rfl⟩, Below.turns hb2 t⟩
  · by_cases hl0 : 0 < l.length
    · exact squeeze_some t B g cap B1 L l v w hT hfx ht0 hlg.1 hl0 hlg.2 own
    · have : l = [] := List.eq_nil_of_length_eq_zero (by omega)
      subst this
      refine (squeeze_none t cap _ w).mono ?_
      rintro e w2 ⟨rfl, hb2⟩
      exact ⟨rfl, ⟨v, hT.below hb2, .inl rfl⟩, Below.turns hb2 t⟩

theorem squeezeCall_ok (t B B1 : Nat) (L l : List Lk.Hd) (v lv : Value) (w : World) (hT : Tab w t B L v) (hfx : Fx w) (ht0 : t ≠ 0) (hw : (Lk.wrong l).1 = 0) (own : w.ownsRow B1 44 2 lv l.length (hdsV l)) :
    Calls Tryd.prog 13 #[.pointer (some ⟨t, 0, none⟩), lv] w fun e w' =>
      e = .returned (.tuple #[.string (bs (Lk.squeeze B L l).1), .int .i64 0, .int .i64 0]) ∧ (∃ v', Tab w' t B (Lk.squeeze B L l).2 v') ∧ Turns t w w' := by
  have HO := hide own
  have HT := hide hT
  have HFX := hide hfx
  have h0 := hfx.1
  clear own hT hfx
  generalize hS : bs (Lk.squeeze B L l).1 = S
  have HS := hide hS
  clear hS
  go_enter Tryd.func13, Tryd.ntmps13
  go_wp2_with fail
  refine (askHeaders_any B1 lv l _ (unhide HO)).mono ?_
  rintro e w1 ⟨he, hb⟩
  rw [hw] at he
  subst he
  have hcall : Calls Tryd.prog 23 #[.pointer (some ⟨t, 0, none⟩), lv] w1 fun e w' => e = .returned (.string S) ∧ (∃ v', Tab w' t B (Lk.squeeze B L l).2 v') ∧ Turns t w1 w' := by
    refine (squeeze_any t B B1 L l v lv w1 ((unhide HT).below hb) ((unhide HFX).below hb h0) ht0 hw (own_below (unhide HO) hb)).mono ?_
    rintro e w2 ⟨rfl, ⟨v', h1, _⟩, h2⟩
    exact ⟨by rw [unhide HS], ⟨v', h1⟩, h2⟩
  have HC := hide hcall
  clear hcall
  go_wp2_with fail
  refine (unhide HC).mono ?_
  rintro e w2 ⟨rfl, hv2, hT2⟩
  go_wp2_with fail
  go_ret3
  exact ⟨rfl, hv2, (Below.turns hb t).trans hT2⟩
end Go.Proofs.YtbkpdapagfjmmaaDoor

/-
  Walks: a message is taken.
-/
namespace Go.Proofs.YtbkpdapagfjmmaaDoor
open Go.RowKit

theorem Outs.snoc {w : World} {os : List Lk.Ow} {ps : List Nat} (h : Outs w os ps) {o : Lk.Ow} {p : Nat} (hI : Is w p 147 (owV o)) : Outs w (os ++ [o]) (ps ++ [p]) := by
  have hl := h.len
  refine ⟨by simp [hl], fun i x q hx hq => ?_⟩
  by_cases hi : i < os.length
  · rw [List.getElem?_append_left hi] at hx
    rw [List.getElem?_append_left (by omega)] at hq
    exact h.is i x q hx hq
  · have hi2 : i = os.length := by
      have := (List.getElem?_eq_some_iff.1 hx).1
      simp at this
      omega
    subst hi2
    rw [List.getElem?_append_right (by omega)] at hx
    rw [List.getElem?_append_right (by omega), ← hl] at hq
    simp at hx hq
    subst hx hq
    exact hI
theorem nextId_le {e : Lk.En} (h : Lk.Wf e) : e.nextId ≤ 268435457 := by
  unfold Lk.En.nextId
  have hs := h.side
  rcases Nat.eq_zero_or_pos e.own.length with h0 | h0
  · omega
  · have hl : e.own[e.own.length - 1]? = some (e.own[e.own.length - 1]'(by omega)) := List.getElem?_eq_getElem (by omega)
    have h1 := (h.own _ _ hl).id
    have h2 := (h.own _ _ hl).id28
    omega

/-- The copy of the table that is tried. -/
theorem tried_tab {w : World} {b : Nat} {e : Lk.En} {d : PD} (hL : Live w b e d) : Tab (w.alloc (.cells #[weighV, .int .i64 ((100 : Int) - Lk.weights e.out), d.ov] 60)) w.heap.size 100 e.out d.ov :=
  ⟨Is.new w 60 [weighV, .int .i64 ((100 : Int) - Lk.weights e.out), d.ov], hL.out.alloc _, hL.wf.out, by omega⟩

end Go.Proofs.YtbkpdapagfjmmaaDoor

/-
  Walks: a message is taken: a stream begins.
-/
namespace Go.Proofs.YtbkpdapagfjmmaaDoor
open Go.RowKit

def beginE (e : Lk.En) (l : List Lk.Hd) (body : Lk.Bs) : Lk.En := ({ e with out := (Lk.squeeze 100 e.out l).2, own := e.own ++ [⟨e.nextId, body, e.win, false⟩] } : Lk.En).send 0 e.nextId (Lk.squeeze 100 e.out l).1
theorem upOwn_snoc (e : Lk.En) (o : Lk.Ow) (ho : o.done = false) (e' : Lk.En) (he : e'.own = e.own ++ [o]) : upOwn e' = upOwn e ++ [o] := by
  unfold upOwn
  rw [he, List.filter_append]
  simp [ho]
/-- What is left behind all that was done. -/
theorem begun_live {w wc W4 w5 W6 w7 : World} {b p g1 cap1 m sn : Nat} {e : Lk.En} {d : PD} {l : List Lk.Hd} {S : Lk.Bs} {body : Lk.Bs} {v : Value} {sa : Option Addr} {sc : Nat} (hL : Live w b e d) (hS : (Lk.squeeze 100 e.out l).1 = S) (hsn : sn = d.ps.length) (hsv : d.sv = .slice sa sn sc) (hN : NewOr w.heap.size d.ov v) (hpw : w.heap.size ≤ p) (hbp : b ≠ p) (hbel : Below w.heap.size w wc) (hL3 : Live wc b e d) (hTab : Tab wc w.heap.size 100 (Lk.squeeze 100 e.out l).2 v)
    (hO4 : Only (· = b) wc W4) (hO5 : Only (fun x => d.sv.ownBlock = some x) W4 w5) (ho5 : w5.ownsRow 0 143 1 (.slice (some ⟨g1, 0, none⟩) (d.ps.length + 1) cap1) (d.ps.length + 1) (d.ps.map ptr ++ [ptr p])) (hor : (Value.slice sa sn sc).ownBlock = some g1 ∨ g1 = wc.heap.size + 1) (hO6 : Only (· = b) w5 W6) (hIp : Is w7 p 147 (owV ⟨e.nextId, body, e.win, false⟩))
    (hR : Rw w7 b { ecOf e d with oroom := ((100 : Nat) : Int) - Lk.weights (Lk.squeeze 100 e.out l).2, ov := v, sv := .slice (some ⟨g1, 0, none⟩) (d.ps.length + 1) cap1, next := (e.nextId : Int) + 2, rs := d.rs ++ [m] } (d.fs ++ [⟨0, e.nextId, S⟩])) (hO7 : Only (fun i => i = b ∨ i ∈ d.rs) W6 w7) (hm : W6.heap.size ≤ m)
    (hsm : ¬ (64 < S.length ∨ 300 < body.length)) (hni : e.nextId ≤ 268435455) (h4 : d.ps.length ≤ 4) (hsn4 : sn ≤ 3) (hW : Lk.Wf (beginE e l body)) : LPost w b d (beginE e l body) w7 := by
  have hs1 := hbel.size
  have hs4 := hO4.size
  have hs5 := hO5.size
  have hs6 := hO6.size
  have hOw : Only (fun x => x = b ∨ x ∈ d.rs ∨ d.sv.ownBlock = some x ∨ x ∈ d.ps) w w7 := by
    have h1 : Only (fun x => x = b ∨ x ∈ d.rs ∨ d.sv.ownBlock = some x ∨ x ∈ d.ps) w wc := Only.of_below hbel _
    have h2 := h1.trans hO4 (fun x hx _ => .inl hx)
    have h3 := h2.trans hO5 (fun x hx _ => .inr (.inr (.inl hx)))
    have h5 := h3.trans hO6 (fun x hx _ => .inl hx)
    exact h5.trans hO7 (fun x hx _ => hx.imp id (fun h => .inl h))
  have hsep := hL3.sepRow
  have hsl7 := own_only (own_only ho5 hO6 (fun x hx e => by
      have hx' : g1 = x := by simpa [Value.ownBlock] using hx
      subst hx'
      rcases hor with h | h
      · rw [← hsv] at h
        exact (hsep _ (.inl e)).2.2.1 h
      · have := hL3.rw.lt
        omega)) hO7 (fun x hx e => by
      have hx' : g1 = x := by simpa [Value.ownBlock] using hx
      subst hx'
      rcases hor with h | h
      · rw [← hsv] at h
        exact (hsep _ e).2.2.1 h
      · rcases e with e | e
        · have := hL3.rw.lt
          omega
        · have := hL3.rw.row.lt _ e
          omega)
  have hout : Outs w7 (upOwn e) d.ps := by
    have h1 := hL3.outs.only hO4 (fun q hq e => (hsep q (.inl e)).2.2.2.1 hq)
    have h2 := h1.only hO5 (fun q hq hx => by
      obtain ⟨o, hI⟩ := hL3.outs.mem hq
      exact own_ne hL3.sl hI (Nat.ne_of_beq_eq_false rfl) hx.symm)
    have h3 := h2.only hO6 (fun q hq e => (hsep q (.inl e)).2.2.2.1 hq)
    exact h3.only hO7 (fun q hq e => (hsep q e).2.2.2.1 hq)
  have hov7 : w7.ownsRow 0 44 2 v (Lk.squeeze 100 e.out l).2.length (hdsV (Lk.squeeze 100 e.out l).2) := by
    have hne : ∀ x, v.ownBlock = some x → ∀ T cs, T ≠ 44 → ¬ Is wc x T cs := fun x hx T cs hT hI => own_ne hTab.own hI hT hx.symm
    have h1 := own_only hTab.own hO4 (fun x hx e => by subst e; exact hne _ hx _ _ (Nat.ne_of_beq_eq_false rfl) hL3.rw.blk)
    have h2 := own_only h1 hO5 (fun x hx hy => by
      rcases own_own_ne hTab.own hL3.sl (Nat.ne_of_beq_eq_false rfl) with h | h
      · rw [h] at hx; cases hx
      · exact h (hx.trans hy.symm))
    have h3 := own_only h2 hO6 (fun x hx e => by subst e; exact hne _ hx _ _ (Nat.ne_of_beq_eq_false rfl) hL3.rw.blk)
    exact own_only h3 hO7 (fun x hx e => by
      rcases e with e | e
      · subst e; exact hne _ hx _ _ (Nat.ne_of_beq_eq_false rfl) hL3.rw.blk
      · obtain ⟨_, _, hy⟩ := hL3.rw.row.links.is x e
        exact hne _ hx _ _ (Nat.ne_of_beq_eq_false rfl) hy)
  have hid1 : 0 < e.nextId := by unfold Lk.En.nextId; omega
  have hup : upOwn (beginE e l body) = upOwn e ++ [⟨e.nextId, body, e.win, false⟩] := upOwn_snoc e _ rfl _ rfl
  refine hL.outOp (ps' := d.ps ++ [p]) (sv' := .slice (some ⟨g1, 0, none⟩) (d.ps.length + 1) cap1) (ov' := v) (rs' := d.rs ++ [m]) hR hOw ?_ rfl rfl ?_ ?_ hW (snoc_new (by omega)) ?_ ?_ ?_ ?_ ?_ ?_ ?_ ?_
  · simp [ecOf, beginE, Lk.En.send, Lk.En.nextId, nextOth]
    omega
  · simp [beginE, Lk.En.send, hL.rowe, Lk.Fr.pack, hS]
  · refine good_append hL.good (fun f hf => ?_)
    simp at hf
    subst hf
    exact Lk.good_head e.nextId S hid1 hni (by omega)
  · simpa using hsl7
  · intro x hx
    have hx' : g1 = x := by simpa [Value.ownBlock] using hx
    subst hx'
    rcases hor with h | h
    · rw [← hsv] at h; exact .inl h
    · right; omega
  · exact hov7
  · intro x hx
    rcases hN with h | h
    · subst h; exact .inl hx
    · exact .inr (h x hx)
  · rw [hup]
    exact hout.snoc hIp
  · refine List.nodup_append.2 ⟨hL.psn, by simp, fun x hx y hy => ?_⟩
    simp at hy
    subst hy
    intro e
    subst e
    obtain ⟨o, hI⟩ := hL.outs.mem hx
    have := hI.lt
    omega
  · intro x hx
    rcases List.mem_append.1 hx with h | h
    · exact .inl h
    · simp at h; subst h; exact .inr hpw
  · simp; omega

end Go.Proofs.YtbkpdapagfjmmaaDoor

/-
  Walks: Submit.
-/
namespace Go.Proofs.YtbkpdapagfjmmaaDoor
open Go.RowKit

theorem LPost.before {w W w' : World} {b : Nat} {d : PD} {e' : Lk.En} (hb : Below w.heap.size w W) (h : LPost W b d e' w') : LPost w b d e' w' := by
  obtain ⟨d', h1, h2, h3⟩ := h
  exact ⟨d', h1, fun i hi => (h2 i hi).imp id (fun h => Nat.le_trans hb.size h), (Only.of_below hb _).trans h3 (fun i hi _ => hi)⟩
theorem LPost.below {w w' : World} {b : Nat} {e : Lk.En} {d : PD} (h : Live w b e d) (hb : Below w.heap.size w w') : LPost w b d e w' := ⟨d, h.only (Only.of_below hb (fun _ => False)) (fun _ _ h => h), fun _ hi => .inl hi, Only.of_below hb _⟩

end Go.Proofs.YtbkpdapagfjmmaaDoor
