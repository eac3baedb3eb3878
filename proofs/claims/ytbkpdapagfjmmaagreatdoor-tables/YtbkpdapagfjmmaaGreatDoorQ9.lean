/-
  Walks: made, where tables are asked for.
-/
import Derived.Test.YtbkpdapagfjmmaaGreatDoorQ8
namespace Go.Proofs.YtbkpdapagfjmmaaGreatDoor
open Go.RowKit

set_option maxHeartbeats 4000000 in
set_option maxRecDepth 100000 in
theorem made4 (bd : Nat) (hbd : bd ≤ 200) (w : World) :
    Calls Tryz.prog 26 #[.int .i64 bd, .int .i64 1, .int .i64 7] w fun e w' =>
      e = .returned (.tuple #[ptr (w.heap.size + 1), .bool true]) ∧ (∃ vR vS vT vU rs ss ts us, ts.length = 2 ∧ us.length = 2 ∧ Making4 w.heap.size (w.heap.size + 1) bd (.slice (some ⟨w.heap.size, 0, none⟩) 2 2) w' vR vS vT vU rs ss ts us) ∧ Below w.heap.size w w' := by
  obtain ⟨i, hi, hz0, hz1, hz2⟩ := info_parts info4R
  obtain ⟨j, hj, hy0, hy1, hy2⟩ := info_parts info4S
  obtain ⟨i2, hi2, hv0, hv1, hv2⟩ := info_parts info4T
  obtain ⟨j2, hj2, hx0, hx1, hx2⟩ := info_parts info4U
  go_enter Tryz.func26, Tryz.ntmps26
  go_wp2_with fail
  go_loopw [9] (fun k wr => ∃ (n : Nat) (vR vS vT vU : Value) (rs ss ts us : List Nat), n ≤ 2 ∧ k = .int .i64 n ∧ rs.length = n ∧ Hid (ss.length = n ∧ ts.length = n ∧ us.length = n) ∧ Making4 w.heap.size (w.heap.size + 1) bd (.slice (some ⟨w.heap.size, 0, none⟩) 2 2) wr vR vS vT vU rs ss ts us ∧ Below w.heap.size w wr) (fun k _ => 2 - (intOf k).toNat)
  case atStart =>
    refine ⟨0, _, _, _, _, [], [], [], [], by omega, rfl, rfl, ⟨rfl, rfl, rfl⟩, ⟨?_, World.ownsRow_nil _ _ _ _, World.ownsRow_nil _ _ _ _, World.ownsRow_nil _ _ _ _, World.ownsRow_nil _ _ _ _, by simp, by simp, List.nodup_nil, List.nodup_nil⟩, by ((repeat' (first | exact Below.refl _ _ | assumption | apply Below.drew | apply Below.alloc | apply Below.setCell)) <;> (simp <;> omega))⟩
    have := Is.new (w.alloc (.cells #[.string ⟨#[]⟩, .string ⟨#[]⟩] 9)) 132 [nilS, nilS, nilS, nilS, nilS, nilS, .slice (some ⟨w.heap.size, 0, none⟩) 2 2]
    simpa using this
  case round =>
    obtain ⟨n, vR, vS, vT, vU, rs, ss, ts, us, hn, rfl, rfl, HSS, hM, hbel⟩ := hrel
    by_cases hlt : rs.length < 2
    · have hlt' : (rs.length : Int) < 2 := by omega
      have hls : ss.length < 2 := by have := (unhide HSS).1; omega
      have hlt2 : ts.length < 2 := by have := (unhide HSS).2.1; omega
      have hlu2 : us.length < 2 := by have := (unhide HSS).2.2; omega
      have m0 := hM.made.cell 0
      simp only [List.getElem?_cons_zero] at m0
      have hMl := hM.made.lt
      have hMl2 : w.heap.size < wr.heap.size := by omega
      go_wp2_with fail
      go_cut [] (fun wc => ∃ v2, Making4 w.heap.size (w.heap.size + 1) bd (.slice (some ⟨w.heap.size, 0, none⟩) 2 2) wc v2 vS vT vU (rs ++ [wr.heap.size]) ss ts us ∧ Below w.heap.size w wc)
      case first =>
        go_region_law (first
          | (refine step_append_lies _ rfl _ _ 125 rfl w.heap.size 133 i (.pointer none) 1 8 Tryz.underlying125 hi hz0 hz1 hz2 rfl (Nat.succ_pos 0) vR rs.length (rs.map ptr) rfl ((hM.R.alloc _).alloc _) ⟨wr.heap.size + 1, 0, none⟩ 1 1 [ptr wr.heap.size] rfl rfl ?_ ?_ ?_ ?_ ?_ ?_ (wr.heap.size + 1 + 1) ?_ ?_
             (refine one_new_at _ _ _ _ ?_; simp)
             simp [Value.oneCell', ptr]
             omega
             (unfold maxLen; omega)
             omega
             (have := hbel.size; simp <;> omega)
             simp
             intro g1 cap1 w1 ho1 hg1 hor1 hlt1
             have hM1 := (((hM.made.alloc (.cells #[.string ⟨#[]⟩, .int .i64 0, .int .i64 0] 85)).alloc (.cells #[ptr wr.heap.size] 133)).drew).grown hg1 (own_ne hM.R hM.made (Nat.ne_of_beq_eq_false rfl))
             have k0 := hM1.cell 0
             have k0f := hM1.free 0
             simp only [List.getElem?_cons_zero] at k0)
          | (go_simp; go_at_call 51; refine (newReader4 _).mono ?_; rintro e w' ⟨rfl, rfl⟩))
        all_goals
          go_wp2_with fail
          go_meet
          have hg := undrew hg1
          have hb2 : Below w.heap.size w w1 := ((hbel.alloc hbel.size _).alloc (by have := hbel.size; simp; omega) _).grown hg (by have := hbel.size; simp; omega) (fun k hk => (hM.R.lt k hk).1)
          have K := (((KeepsT.refl 133 wr).alloc (.cells #[.string ⟨#[]⟩, .int .i64 0, .int .i64 0] 85)).alloc (.cells #[ptr wr.heap.size] 133)).grown hg ((hM.R.alloc _).alloc _)
          exact ⟨_, hM.pushR K ho1, hb2.setCell (by simp) _⟩
      case rest =>
        obtain ⟨v2, hM2, hb2⟩ := hcut
        clear hM hbel m0 hMl hMl2
        have m1 := hM2.made.cell 1
        simp only [List.getElem?_cons_zero, List.getElem?_cons_succ] at m1
        have hMl := hM2.made.lt
        have hMl2 : w.heap.size < wc.heap.size := by omega
        go_wp2_with (at_builtin; refine wpList_append_own _ rfl _ _ 126 rfl w.heap.size 52 j (.pointer none) 1 8 Tryz.underlying126 hj hy0 hy1 hy2 rfl (by decide) vS ss.length (ss.map ptr) rfl ((hM2.S.alloc _).alloc _) ⟨wc.heap.size + 1, 0, none⟩ 1 1 [ptr wc.heap.size] rfl rfl ?hnews ?h1 ?h63 ?hby ?hba ?_)
        case hnews =>
          have e := cell_one_new (wc.alloc (.cells #[.string ⟨#[]⟩, .int .i64 0] 54)) (ptr wc.heap.size) 52
          rw [World.size_alloc] at e
          exact e
        case h1 => simp [Value.oneCell', ptr]
        case h63 => unfold maxLen; omega
        case hby => omega
        case hba => have := hb2.size; simp; omega
        intro v3 w3 ho3 hg3 _
        have hMM := ((hM2.made.alloc (.cells #[.string ⟨#[]⟩, .int .i64 0] 54)).alloc (.cells #[ptr wc.heap.size] 52)).grown hg3 (own_ne hM2.S hM2.made (Nat.ne_of_beq_eq_false rfl))
        have K := (((KeepsT.refl 52 wc).alloc (.cells #[.string ⟨#[]⟩, .int .i64 0] 54)).alloc (.cells #[ptr wc.heap.size] 52)).grown hg3 ((hM2.S.alloc _).alloc _)
        have hM3 := hM2.pushS K ho3
        have hb3 : Below w.heap.size w w3 := ((hb2.alloc hb2.size _).alloc (by have := hb2.size; simp; omega) _).grown hg3 (by have := hb2.size; simp; omega) (fun k hk => (hM2.S.lt k hk).1)
        have hb4 := hb3.setCell (p := ⟨w.heap.size + 1, 1, none⟩) (by simp) v3
        have q1 := hMM.cell 1
        have q1f := hMM.free 1
        simp only [List.getElem?_cons_zero, List.getElem?_cons_succ] at q1
        clear hM2 hb2 m1 hMl hMl2 hg3 K hMM hb3
        obtain ⟨gS, capS, rfl⟩ : ∃ gS capS, v3 = .slice (some ⟨gS, 0, none⟩) (ss.length + 1) capS := by
          rcases ho3.2 with ⟨_, h0⟩ | ⟨g, cap, cur, h, _⟩
          · simp at h0
          · exact ⟨g, cap, by simpa using h⟩
        clear ho3
        rcases hM3.R.2 with ⟨_, h0⟩ | ⟨g, cap, cur, rfl, hgB, hgg, hgn, hcm, hcs, htk⟩
        · simp at h0
        have q0 := hM3.made.cell 0
        simp only [List.getElem?_cons_zero] at q0
        have hG : Is (w3.setCell ⟨w.heap.size + 1, 1, none⟩ (.slice (some ⟨gS, 0, none⟩) (ss.length + 1) capS)) g 133 cur.toList := by unfold Is; simpa using hgg
        have hgc : (w3.setCell ⟨w.heap.size + 1, 1, none⟩ (.slice (some ⟨gS, 0, none⟩) (ss.length + 1) capS)).cell? ⟨g, rs.length, none⟩ = some (ptr wr.heap.size) := by
          rw [hG.cell]
          have e := congrArg (fun l => l[rs.length]?) htk
          simp only [List.length_append, List.length_cons, List.length_nil, Nat.mul_one] at e
          rw [List.getElem?_take_of_lt (by omega)] at e
          rw [e]
          simp
        unfold ptr at hgc
        simp only [List.length_append, List.length_cons, List.length_nil] at q0 hgn
        have HM3 := hide hM3
        clear hG hgg htk hcs hM3
        go_wp2_with fail
        refine (newTable_ok bd hbd _).mono ?_
        rintro e w5 ⟨t', rfl, ht', hT5, hb5⟩
        have HM5 := hide ((unhide HM3).below hb5)
        have hb5' := hb4.trans (hb5.mono hb4.size)
        have hts : ∀ x ∈ ts, x < t' := fun x hx => by have := ((unhide HM3).tab x hx).2.blk.lt; omega
        have hws : w.heap.size ≤ t' := by have := hb4.size; omega
        have HTS := hide (⟨hts, hws⟩ : (∀ x ∈ ts, x < t') ∧ w.heap.size ≤ t')
        have HT5 := hide hT5
        clear hT5 hb5 ht' hts hws q0 q1 q1f hgc hb4
        go_wp2_with fail
        refine (rnewTable_ok bd hbd _).mono ?_
        rintro e w6 ⟨u', rfl, hu', hU6, hb6⟩
        have hM6 := (unhide HM5).below hb6
        have hT6 := (unhide HT5).below hb6
        have hb6' := hb5'.trans (hb6.mono hb5'.size)
        have hus : ∀ x ∈ us, x < u' := fun x hx => by have := ((unhide HM5).rtab x hx).2.blk.lt; omega
        have hwu : w.heap.size ≤ u' := by have := hb5'.size; omega
        have HUS := hide (⟨hus, hwu⟩ : (∀ x ∈ us, x < u') ∧ w.heap.size ≤ u')
        have m2 := hM6.made.cell 2
        simp only [List.getElem?_cons_zero, List.getElem?_cons_succ] at m2
        have hMl := hM6.made.lt
        have hMl2 : w.heap.size < w6.heap.size := by omega
        have HT6 := hide hT6
        have HU6 := hide hU6
        have HM6 := hide hM6
        clear hT6 hU6 hM6 hb6 hu' hus hwu hb5'
        go_wp2_with (at_builtin; refine wpList_append_own _ rfl _ _ 127 rfl w.heap.size 135 i2 (.pointer none) 1 8 Tryz.underlying127 hi2 hv0 hv1 hv2 rfl (by decide) vT ts.length (ts.map ptr) rfl ((unhide HM6).T.alloc _) ⟨w6.heap.size, 0, none⟩ 1 1 [ptr t'] rfl rfl ?hnews ?h1 ?h63 ?hby ?hba ?_)
        case hnews => exact cell_one_new w6 (ptr t') 135
        case h1 => simp [Value.oneCell', ptr]
        case h63 => unfold maxLen; omega
        case hby => omega
        case hba => simp; omega
        intro v7 w7 ho7 hg7 _
        have hMM := ((unhide HM6).made.alloc (.cells #[ptr t'] 135)).grown hg7 (own_ne (unhide HM6).T (unhide HM6).made (Nat.ne_of_beq_eq_false rfl))
        have K := ((KeepsT.refl 135 w6).alloc (.cells #[ptr t'] 135)).grown hg7 ((unhide HM6).T.alloc _)
        have hM7 := (unhide HM6).pushT K ho7 (unhide HT6) (unhide HTS).2 (fun hx => by have := (unhide HTS).1 _ hx; omega)
        have hU7 := ((unhide HU6).keepsE K (Nat.ne_of_beq_eq_false rfl) (Nat.ne_of_beq_eq_false rfl)).keepsE (KeepsT.setAt hMM 2 v7) (Nat.ne_of_beq_eq_false rfl) (Nat.ne_of_beq_eq_false rfl)
        have hb7 : Below w.heap.size w w7 := (hb6'.alloc hb6'.size _).grown hg7 (by have := hb6'.size; simp; omega) (fun k hk => ((unhide HM6).T.lt k hk).1)
        have hb8 := hb7.setCell (p := ⟨w.heap.size + 1, 2, none⟩) (by simp) v7
        have q2 := hMM.cell 2
        have q2f := hMM.free 2
        simp only [List.getElem?_cons_zero, List.getElem?_cons_succ] at q2
        obtain ⟨gT, capT, rfl⟩ : ∃ gT capT, v7 = .slice (some ⟨gT, 0, none⟩) (ts.length + 1) capT := by
          rcases ho7.2 with ⟨_, h0⟩ | ⟨g, cap, cur, h, _⟩
          · simp at h0
          · exact ⟨g, cap, by simpa using h⟩
        have m3 := hM7.made.cell 3
        simp only [List.getElem?_cons_zero, List.getElem?_cons_succ] at m3
        have hMl7 := hM7.made.lt
        have HM7 := hide hM7
        have HU7 := hide hU7
        have HB8 := hide hb8
        have hs8 := hb8.size
        clear hM7 hU7 hb7 hb8 ho7 hg7 K hMM m2 hMl hMl2 hb6'
        go_wp2_with (at_builtin; refine wpList_append_own _ rfl _ _ 128 rfl w.heap.size 138 j2 (.pointer none) 1 8 Tryz.underlying128 hj2 hx0 hx1 hx2 rfl (by decide) vU us.length (us.map ptr) rfl ((unhide HM7).U.alloc _) ⟨w7.heap.size, 0, none⟩ 1 1 [ptr u'] rfl rfl ?hnews ?h1 ?h63 ?hby ?hba ?_)
        case hnews =>
          have e := cell_one_new (w7.setCell ⟨w.heap.size + 1, 2, none⟩ (.slice (some ⟨gT, 0, none⟩) (ts.length + 1) capT)) (ptr u') 138
          rw [World.size_setCell] at e
          exact e
        case h1 => simp [Value.oneCell', ptr]
        case h63 => unfold maxLen; omega
        case hby => omega
        case hba => simp at hs8 ⊢; omega
        intro v9 w9 ho9 hg9 _
        have hMM := ((unhide HM7).made.alloc (.cells #[ptr u'] 138)).grown hg9 (own_ne (unhide HM7).U (unhide HM7).made (Nat.ne_of_beq_eq_false rfl))
        have K := ((KeepsT.refl 138 _).alloc (.cells #[ptr u'] 138)).grown hg9 ((unhide HM7).U.alloc _)
        have hM9 := (unhide HM7).pushU K ho9 (unhide HU7) (unhide HUS).2 (fun hx => by have := (unhide HUS).1 _ hx; omega)
        have hb9 : Below w.heap.size w w9 := ((unhide HB8).alloc hs8 _).grown hg9 (by simp at hs8 ⊢; omega) (fun k hk => ((unhide HM7).U.lt k hk).1)
        have hb10 := hb9.setCell (p := ⟨w.heap.size + 1, 3, none⟩) (by simp) v9
        have q3 := hMM.cell 3
        have q3f := hMM.free 3
        simp only [List.getElem?_cons_zero, List.getElem?_cons_succ] at q3
        obtain ⟨gU, capU, rfl⟩ : ∃ gU capU, v9 = .slice (some ⟨gU, 0, none⟩) (us.length + 1) capU := by
          rcases ho9.2 with ⟨_, h0⟩ | ⟨g, cap, cur, h, _⟩
          · simp at h0
          · exact ⟨g, cap, by simpa using h⟩
        have HM9 := hide hM9
        clear hM9 hb9 ho9 hg9 K hMM m3 hMl7
        go_wp2_with fail
        refine (num4 0 _).mono ?_
        rintro e w10 ⟨rfl, rfl⟩
        go_wp2_with fail
        go_roundw
        case rel =>
          have h3 := unhide HSS
          exact ⟨rs.length + 1, _, _, _, _, _, _, _, _, by omega, by go_num, by simp, ⟨by simp; omega, by simp; omega, by simp; omega⟩, unhide HM9, hb10⟩
        case measure => simp [intOf]; omega
    · have hlt' : ¬ (rs.length : Int) < 2 := by omega
      go_wp2_with fail
      go_ret2
      have h3 := unhide HSS
      exact ⟨rfl, ⟨vR, vS, vT, vU, rs, ss, ts, by omega, us, by omega, hM⟩, hbel⟩
end Go.Proofs.YtbkpdapagfjmmaaGreatDoor
