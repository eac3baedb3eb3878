/-
  Walks: the document's Expand.
-/
import Derived.Test.YtbkpdapagfjmmaaGreatDoorLA
import Derived.Test.YtbkpdapagfjmmaaGreatDoorV6
namespace Go.Proofs.YtbkpdapagfjmmaaGreatDoor
open Go.RowKit

def RXPost (w : World) (t B : Nat) (X : Lk.XR) (e : Ending) (w' : World) : Prop :=
  match X with
  | .ok hs L2 => (∃ lv v', e = .returned (.tuple #[lv, .int .i64 0, .int .i64 0]) ∧ w'.ownsRow w.heap.size 206 2 lv hs.length (hdsV hs) ∧ RTab w' t B L2 v' ∧ hs.length ≤ 6) ∧ Turns t w w'
  | .err ec q => e = .returned (.tuple #[.slice none 0 0, .int .i64 (ec : Int), .int .i64 (q : Int)]) ∧ Below w.heap.size w w'

theorem RTab.grown {w w' : World} {t B : Nat} {L : List Lk.Hd} {v : Value} {row : Option Nat} (h : RTab w t B L v) (hg : w.grownBy w' row) (h1 : some t ≠ row) (h2 : v.ownBlock = none ∨ v.ownBlock ≠ row) : RTab w' t B L v :=
  ⟨h.blk.grown hg h1, h.own.kept hg h2, h.le, h.hB⟩

set_option maxHeartbeats 4000000 in
set_option maxRecDepth 100000 in
theorem rexpand_any (t B : Nat) (L : List Lk.Hd) (v : Value) (s : ByteArray) (w : World) (hs : s.size ≤ 2 ^ 48) (hT : RTab w t B L v) (X : Lk.XR) (HX : Hid (Lk.exR B s.data.toList 6 L 0 = X)) :
    Calls Tryz.prog 63 #[.pointer (some ⟨t, 0, none⟩), .string s] w (RXPost w t B X) := by
  obtain ⟨i, hi, hz0, hz1, hz2⟩ := info_parts info_rh
  have hsm : s.size ≤ maxLen := by unfold maxLen; omega
  have HSL := hide (size_list s)
  have HT := hide hT
  have htl := hT.blk.lt
  have HT0 := hide (hT.alloc (.cells #[.string s, .int .i64 0, .int .i64 (-1)] 213))
  have HI0 : Hid (RB (w.alloc (.cells #[.string s, .int .i64 0, .int .i64 (-1)] 213)) w.heap.size s ((0 : Nat) : Nat) (-1)) := Is.new w 213 [.string s, .int .i64 0, .int .i64 (-1)]
  have HB0 := hide ((Below.refl w.heap.size w).alloc (Nat.le_refl _) (.cells #[.string s, .int .i64 0, .int .i64 (-1)] 213))
  clear hT
  go_enter Tryz.func63, Tryz.ntmps63
  go_wp2_with fail
  refine (rcopied_any t B L v _ (unhide HT0)).mono ?_
  rintro e w1 ⟨u, rfl, hu, ⟨v1, hT1, hv1⟩, hb1⟩
  have hI1 := (unhide HI0).below hb1
  have hbel1 : Below w.heap.size w w1 := (unhide HB0).trans (hb1.mono (by simp))
  have hub : w.heap.size < u := by simp at hu; omega
  have HT1 := hide hT1
  have HI1 := hide hI1
  clear hT1 hI1 hb1 hu
  generalize hbb : w.heap.size = b at *
  have hbw : b ≤ w.heap.size := by omega
  have HBB := hide hbb
  clear hbb
  go_wp2_with fail
  go_loopw [9] (fun o wr => ∃ (hd : List Lk.Hd) (p' : Nat) (L' : List Lk.Hd) (v' : Value), hd.length ≤ 6 ∧ p' ≤ s.size ∧ Hid (X = Lk.pre hd (Lk.exR B s.data.toList (6 - hd.length) L' p')) ∧ RB wr b s p' (-1) ∧ RTab wr u B L' v' ∧ wr.ownsRow b 206 2 o hd.length (hdsV hd) ∧ (o.ownBlock = none ∨ o.ownBlock ≠ v'.ownBlock) ∧ Below b w wr) (fun o _ => 6 - sliceLen o)
  case atStart =>
    refine ⟨[], 0, L, v1, by simp, by omega, ?_, unhide HI1, unhide HT1, World.ownsRow_nil _ _ _ _, .inl rfl, hbel1⟩
    have := unhide HX
    rw [Hid, ← this]
    simp only [List.length_nil, Nat.sub_zero]
    cases Lk.exR B s.data.toList 6 L 0 <;> rfl
  case round =>
    obtain ⟨hd, p', L', v', hd6, hp', HE, hIr, hTr, hown, hdis, hbel⟩ := hrel
    obtain ⟨a, cap, rfl⟩ := row_form hown
    obtain ⟨va, vcap, hvf⟩ := hTr.form
    generalize hvn : L'.length = vn at hvf
    subst hvf
    have HVN := hide hvn
    clear hvn
    have c1 : wr.cell? ⟨b, 1, none⟩ = some (.int .i64 p') := hIr.cell 1
    have hsz := hbel.size
    by_cases hend : s.size ≤ p'
    · have hend' : ¬ (p' : Int) < s.size := by omega
      have hXX : X = .ok hd L' := by
        rw [unhide HE]
        have e : Lk.exR B s.data.toList (6 - hd.length) L' p' = .ok [] L' := by
          cases 6 - hd.length <;> (rw [Lk.exR, if_pos (by rw [← unhide HSL]; exact hend)])
        rw [e]
        simp [Lk.pre]
      subst hXX
      have t1 := hTr.blk.cell 1
      have hTt := (unhide HT).blk.below hbel (by omega)
      have tf := hTt.free 1
      have d0 := hTt.cell 0
      have d1 := hTt.cell 1
      have htr : t < wr.heap.size := by omega
      have hur := hTr.blk.lt
      simp only [List.getElem?_cons_zero, List.getElem?_cons_succ] at t1 d0 d1
      have HTt := hide hTt
      have HOr := hide hown
      have HTr := hide hTr
      clear hown hTr hTt
      go_wp2_with fail
      go_ret3
      have hg : Turns t wr (wr.setCell ⟨t, 1, none⟩ (.slice va vn vcap)) := (Turns.refl t wr).set 1 _
      refine ⟨⟨_, .slice va vn vcap, rfl, ?_, ⟨(unhide HTt).set 1 _, rown_turns (unhide HTr).own (unhide HTt) (Nat.ne_of_beq_eq_false rfl) hg, (unhide HTr).le, (unhide HT).hB⟩, hd6⟩, ?_⟩
      · rw [unhide HBB]
        exact rown_turns (unhide HOr) (unhide HTt) (Nat.ne_of_beq_eq_false rfl) hg
      · have hb' : Below w.heap.size w wr := by rw [unhide HBB]; exact hbel
        exact (Below.turns hb' t).set 1 _
    · have hend' : (p' : Int) < s.size := by omega
      by_cases h6 : hd.length = 6
      · have h6' : ((hd.length : Int) == 6) = true := by rw [beq_iff_eq]; omega
        have hXX : X = .err 8 p' := by
          rw [unhide HE, h6]
          simp only [Nat.sub_self]
          rw [Lk.exR, if_neg (by rw [← unhide HSL]; exact hend)]
          rfl
        subst hXX
        go_wp2_with fail
        go_quiet (fail)
        go_wp2_with fail
        go_ret3
        refine ⟨rfl, ?_⟩
        rw [unhide HBB]
        exact Below.drewN hbel _
      · have h6' : ((hd.length : Int) == 6) = false := by rw [beq_eq_false_iff_ne]; omega
        have hXX : X = Lk.pre hd (match Lk.partR B L' s.data.toList p' with
            | .bad q => .err 9 q
            | .ok hl q => match Lk.exR B s.data.toList (6 - (hd.length + 1)) hl.2 q with
              | .ok hs L2 => .ok (hl.1 :: hs) L2
              | .err e q => .err e q) := by
          rw [unhide HE]
          have e : 6 - hd.length = (6 - (hd.length + 1)) + 1 := by omega
          rw [e, Lk.exR, if_neg (by rw [← unhide HSL]; exact hend)]
          rfl
        have HXX := hide hXX
        have HC := hide (rbpart_any b u s p' B L' (.slice va vn vcap) wr hs hp' hIr hTr)
        have HGE := hide (fun hl q => Lk.partR_ge (B := B) (L := L') (s := s.data.toList) (p := p') (hl := hl) (q := q) (by rw [← unhide HSL]; exact hp') hTr.le hTr.hB)
        have HOr := hide hown
        have HIr := hide hIr
        have HTr := hide hTr
        clear hXX hown hIr hTr
        go_wp2_with fail
        refine (unhide HC).mono ?_
        rintro e w2 ⟨hm, hT2⟩
        have ho2 := hT2.own (unhide HOr) (own_ne (unhide HOr) (unhide HIr) (Nat.ne_of_beq_eq_false rfl)) (own_ne (unhide HOr) (unhide HTr).blk (Nat.ne_of_beq_eq_false rfl))
        have hbel2 := Two.toBelow hbel hT2 (Nat.le_refl _) (by omega) (by omega)
        have hs2 := hbel2.size
        cases hpr : Lk.partR B L' s.data.toList p' with
        | bad q =>
          rw [hpr] at hm
          obtain ⟨⟨hx, rfl⟩, p2, hI2⟩ := hm
          have hX2 := unhide HXX
          rw [hpr] at hX2
          simp only [Lk.pre] at hX2
          subst hX2
          have hq : (0 : Int) ≤ q := by omega
          have hbl2 : b < w2.heap.size := hI2.set1
          have k2 : (w2.alloc (.cells #[.string (bs hx.n), .string (bs hx.v)] 206)).cell? ⟨b, 2, none⟩ = some (.int .i64 q) := (hI2.alloc _).cell 2
          have HI2 := hide hI2
          clear hI2 ho2 c1
          go_wp2_with fail
          go_quiet (fail)
          go_wp2_with fail
          go_ret3
          refine ⟨rfl, ?_⟩
          rw [unhide HBB]
          exact Below.drewN (hbel2.alloc (by omega) _) _
        | ok hl q =>
          rw [hpr] at hm
          obtain ⟨rfl, hI2, v2, hK2, hN2⟩ := hm
          have hge := unhide HGE hl q hpr
          rw [← unhide HSL] at hge
          have hlt : ∀ k, (Value.slice a hd.length cap).ownBlock = some k → k < wr.heap.size := fun k hk => ((unhide HOr).lt k hk).2
          have hdis2 : (Value.slice a hd.length cap).ownBlock = none ∨ (Value.slice a hd.length cap).ownBlock ≠ v2.ownBlock := by
            rcases hN2 with rfl | hN2
            · exact hdis
            · cases hv : (Value.slice a hd.length cap).ownBlock with
              | none => exact .inl rfl
              | some k => exact .inr (fun e => by have h1 := hN2 k e.symm; have h2 := hlt k hv; omega)
          have hX2 := unhide HXX
          rw [hpr] at hX2
          have HX2 := hide hX2
          have HK2 := hide hK2
          have HO2 := hide ho2
          have HI2 := hide hI2
          have hbl2 : b < w2.heap.size := hI2.set1
          have k2 : (w2.alloc (.cells #[.string (bs hl.1.n), .string (bs hl.1.v)] 206)).cell? ⟨b, 2, none⟩ = some (.int .i64 (-1)) := (hI2.alloc _).cell 2
          clear hK2 ho2 hX2 hI2 c1
          go_wp2_with (at_builtin; refine wpList_append_lies _ rfl _ _ 154 rfl b 206 i _ 2 32 Tryz.underlying154 hi hz0 hz1 hz2 rfl (by decide) _ hd.length (hdsV hd) rfl (((unhide HO2).alloc _).alloc _) ⟨w2.heap.size + 1, 0, none⟩ 1 1 (hdV hl.1) rfl rfl ?hnews ?h1 (by decide) ?h63 ?hby ?hba _ rfl ?_)
          case hnews =>
            have := row_cells (built_h1 (w2.alloc (.cells #[.string (bs hl.1.n), .string (bs hl.1.v)] 206)) 206 hl.1)
            simpa using this
          case h1 => simp [hdV, Value.oneCell']
          case h63 => unfold maxLen; omega
          case hby => omega
          case hba => first | omega | (simp; omega)
          intro g1 cap1 w3 ho3 hg3 hor3 hlt3
          have hKa := ((unhide HK2).alloc (.cells #[.string (bs hl.1.n), .string (bs hl.1.v)] 206)).alloc (.cells #[.string (bs hl.1.n), .string (bs hl.1.v)] 206)
          have hIa := ((unhide HI2).alloc (.cells #[.string (bs hl.1.n), .string (bs hl.1.v)] 206)).alloc (.cells #[.string (bs hl.1.n), .string (bs hl.1.v)] 206)
          have hOa := ((unhide HO2).alloc (.cells #[.string (bs hl.1.n), .string (bs hl.1.v)] 206)).alloc (.cells #[.string (bs hl.1.n), .string (bs hl.1.v)] 206)
          have hrow : ∀ k, (Value.slice a hd.length cap).ownBlock = some k → b ≤ k := fun k hk => ((unhide HO2).lt k hk).1
          have hdv : v2.ownBlock = none ∨ v2.ownBlock ≠ (Value.slice a hd.length cap).ownBlock := by
            cases hv : v2.ownBlock with
            | none => exact .inl rfl
            | some k =>
              right
              rcases hdis2 with h | h
              · rw [h]; simp
              · rw [hv] at h; exact fun e => h e.symm
          have hK3 := hKa.grown hg3 (own_ne hOa hKa.blk (Nat.ne_of_beq_eq_false rfl)) hdv
          have hI3 : RB w3 b s q (-1) := Is.grown hIa hg3 (own_ne hOa hIa (Nat.ne_of_beq_eq_false rfl))
          have hbel3 := ((hbel2.alloc (by omega) (.cells #[.string (bs hl.1.n), .string (bs hl.1.v)] 206)).alloc (by simp; omega) (.cells #[.string (bs hl.1.n), .string (bs hl.1.v)] 206)).grown hg3 (by simp; omega) hrow
          have hdis3 : (Value.slice (some ⟨g1, 0, none⟩) (hd.length + 1) cap1).ownBlock = none ∨ (Value.slice (some ⟨g1, 0, none⟩) (hd.length + 1) cap1).ownBlock ≠ v2.ownBlock := by
            right
            show some g1 ≠ v2.ownBlock
            intro e
            rcases hor3 with h | h
            · rcases hdis2 with h' | h'
              · rw [h'] at h; cases h
              · exact h' (h.trans e)
            · have := ((unhide HK2).own.lt g1 e.symm).2
              omega
          have ho3' : w3.ownsRow b 206 2 (.slice (some ⟨g1, 0, none⟩) (hd.length + 1) cap1) (hd ++ [hl.1]).length (hdsV (hd ++ [hl.1])) := by
            rw [hdsV_append]
            simpa [hdsV] using ho3
          have HX3 : Hid (X = Lk.pre (hd ++ [hl.1]) (Lk.exR B s.data.toList (6 - (hd ++ [hl.1]).length) hl.2 q)) := by
            have e := unhide HX2
            rw [Hid, e, List.length_append, List.length_singleton]
            cases Lk.exR B s.data.toList (6 - (hd.length + 1)) hl.2 q <;> simp [Lk.pre]
          have HK3 := hide hK3
          have HO3 := hide ho3'
          have HI3 := hide hI3
          clear ho3 hg3 hKa hOa hK3 ho3' hor3 hdv hIa hI3 k2
          go_wp2_with fail
          go_roundw
          case rel => exact ⟨hd ++ [hl.1], q, hl.2, v2, by simp; omega, hge.2, HX3, unhide HI3, unhide HK3, unhide HO3, hdis3, hbel3⟩
          case measure => simp [sliceLen]; omega
end Go.Proofs.YtbkpdapagfjmmaaGreatDoor
