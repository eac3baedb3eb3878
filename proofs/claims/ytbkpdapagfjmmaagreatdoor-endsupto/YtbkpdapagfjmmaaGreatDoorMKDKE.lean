import Derived.Test.YtbkpdapagfjmmaaGreatDoorMKC
import Derived.Test.YtbkpdapagfjmmaaGreatDoorML9LB
import Derived.Maps.AppendAt
set_option linter.unusedVariables false
set_option maxRecDepth 100000
set_option maxHeartbeats 16000000
namespace Go.Proofs.YtbkpdapagfjmmaaGreatDoor
open Go.RowKit
variable {κ : Prop}
theorem REnd.turnIn {w w' : World} {b : Nat} {e : Lk.En} {p : RP} (h : REnd κ w b e p) {L : List Lk.Hd} {v' : Value} (hT : RTab w' p.ib 100 L v') (hTu : Turns p.ib w w') (hv : ∀ k, v'.ownBlock = some k → w.heap.size ≤ k) : REnd κ w' b { e with inn := L } { p with vi := v' } ∧ (∀ i, rfoot b { p with vi := v' } i → rfoot b p i ∨ w.heap.size ≤ i) ∧ Only (rfoot b p) w w' := by
  have hO : Only (· = p.ib) w w' := Only.of_turns hTu
  obtain ⟨a1, _, a3, a4, a5, a6, a7⟩ := h.apt h.inn.blk
  have a1 := a1 (nbq rfl)
  have a3 := a3 (nbq rfl)
  have a4 := (a4 (nbq rfl)).1
  have a5 := a5 (nbq rfl)
  have a6 := a6 (nbq rfl)
  have a7 := a7 (nbq rfl)
  obtain ⟨s, f, r1, r2⟩ := h.rd
  have hR : REnd κ w' b { e with inn := L } { p with vi := v' } := ⟨h.blk.only hO a1, h.out.only hO h.ne (fun i hi => a4 i hi), hT, ⟨s, f, r1.only hO a3, r2⟩, h.row.only hO (fun i hi => a5 i hi), own_only h.own hO (fun i hi => a6 i hi), own_only h.oth hO (fun i hi => a7 i hi), h.ne, by
    cases hx : p.vo.ownBlock with
    | none => exact .inl rfl
    | some k =>
      refine .inr (fun e2 => ?_)
      have q1 := hv k e2.symm
      have q2 := (h.out.own.lt k hx).2
      omega⟩
  refine ⟨hR, fun i hi => ?_, hO.mono (fun i hi => .inr (.inr (.inl hi)))⟩
  rcases hi with hi | hi | hi | hi | hi | hi | hi | hi | hi
  · exact .inl (.inl hi)
  · exact .inl (.inr (.inl hi))
  · exact .inl (.inr (.inr (.inl hi)))
  · exact .inl (.inr (.inr (.inr (.inl hi))))
  · exact .inl (.inr (.inr (.inr (.inr (.inl hi)))))
  · exact .inr (hv i hi)
  · exact .inl (.inr (.inr (.inr (.inr (.inr (.inr (.inl hi)))))))
  · exact .inl (.inr (.inr (.inr (.inr (.inr (.inr (.inr (.inl hi))))))))
  · exact .inl (.inr (.inr (.inr (.inr (.inr (.inr (.inr (.inr hi))))))))
theorem REnd.pushTv {w w' : World} {b : Nat} {e : Lk.En} {p : RP} (h : REnd κ w b e p) {v' : Value} {l : List Lk.Ot} (hq : w'.ownsRow 0 265 5 v' l.length (rtsV l)) (hv : v'.ownBlock = p.tv.ownBlock ∨ ∀ k, v'.ownBlock = some k → w.heap.size ≤ k) (hO : Only (fun i => p.tv.ownBlock = some i) w w') : RPost κ w b p { e with oth := l } (w'.setCell ⟨b, 7, none⟩ v') := by
  have hap : ∀ i, p.tv.ownBlock = some i → b ≠ i ∧ (p.ob ≠ i ∧ p.ib ≠ i) ∧ p.rb ≠ i ∧ ((∀ j, p.vo.ownBlock = some j → j ≠ i) ∧ ∀ j, p.vi.ownBlock = some j → j ≠ i) ∧ (∀ j, p.rv.ownBlock = some j → j ≠ i) ∧ ∀ j, p.wv.ownBlock = some j → j ≠ i := fun i hi => by
    obtain ⟨cs, hI⟩ := own_is h.oth hi
    obtain ⟨a1, a2, a3, a4, a5, a6, _⟩ := h.apt hI
    exact ⟨a1 (nbq rfl), a2 (nbq rfl), a3 (nbq rfl), a4 (nbq rfl), a5 (nbq rfl), a6 (nbq rfl)⟩
  have hO2 : Only (fun i => p.tv.ownBlock = some i ∨ i = b) w (w'.setCell ⟨b, 7, none⟩ v') := (hO.mono (fun i hi => .inl hi)).set b 7 v' (fun _ => .inr rfl)
  obtain ⟨c1, c2, c3, c4, c5, c6, c7, c8⟩ := h.apart
  have hn : ∀ i, (∀ j, p.tv.ownBlock = some j → i ≠ j) → i ≠ b → ¬ (p.tv.ownBlock = some i ∨ i = b) := fun i h1 h2 hx => by
    rcases hx with hx | hx
    · exact h1 i hx rfl
    · exact h2 hx
  have hI := (h.blk.only hO (fun hb => (hap b hb).1 rfl)).set 7 v'
  have hbq : ∀ i, v'.ownBlock = some i → i ≠ b := fun i hi => by
    rcases hv with hv | hv
    · rw [hv] at hi
      exact c8 i hi
    · have := hv i hi
      have := h.blk.lt
      omega
  obtain ⟨s, f, r1, r2⟩ := h.rd
  refine ⟨{ p with tv := v' }, ⟨hI, h.out.only hO2 (hn _ (fun j hj => (hap j hj).2.1.1) (Ne.symm c1)) (fun i hi => hn i (fun j hj => (hap j hj).2.2.2.1.1 i hi) (c4 i hi)), h.inn.only hO2 (hn _ (fun j hj => (hap j hj).2.1.2) (Ne.symm c2)) (fun i hi => hn i (fun j hj => (hap j hj).2.2.2.1.2 i hi) (c5 i hi)), ⟨s, f, r1.only hO2 (hn _ (fun j hj => (hap j hj).2.2.1) (Ne.symm c3)), r2⟩, h.row.only hO2 (fun i hi => hn i (fun j hj => (hap j hj).2.2.2.2.1 i hi) (c6 i hi)), own_only h.own hO2 (fun i hi => hn i (fun j hj => (hap j hj).2.2.2.2.2 i hi) (c7 i hi)), own_only hq ((Only.refl (· = b) w').set b 7 v' (fun _ => rfl)) hbq, h.ne, h.nv⟩, fun i hi => ?_, hO2.mono (fun i hi => ?_)⟩
  · rcases hi with hi | hi | hi | hi | hi | hi | hi | hi | hi
    · exact .inl (.inl hi)
    · exact .inl (.inr (.inl hi))
    · exact .inl (.inr (.inr (.inl hi)))
    · exact .inl (.inr (.inr (.inr (.inl hi))))
    · exact .inl (.inr (.inr (.inr (.inr (.inl hi)))))
    · exact .inl (.inr (.inr (.inr (.inr (.inr (.inl hi))))))
    · exact .inl (.inr (.inr (.inr (.inr (.inr (.inr (.inl hi)))))))
    · exact .inl (.inr (.inr (.inr (.inr (.inr (.inr (.inr (.inl hi))))))))
    · rcases hv with hv | hv
      · have hi : v'.ownBlock = some i := hi
        rw [hv] at hi
        exact .inl (.inr (.inr (.inr (.inr (.inr (.inr (.inr (.inr hi))))))))
      · exact .inr (hv i hi)
  · rcases hi with hi | hi
    · exact .inr (.inr (.inr (.inr (.inr (.inr (.inr (.inr hi)))))))
    · exact .inl hi
theorem REnd.pushWv {w w' : World} {b : Nat} {e : Lk.En} {p : RP} (h : REnd κ w b e p) {v' : Value} {l : List Lk.Ow} (hq : w'.ownsRow 0 258 4 v' l.length (rwsV l)) (hv : v'.ownBlock = p.wv.ownBlock ∨ ∀ k, v'.ownBlock = some k → w.heap.size ≤ k) (hO : Only (fun i => p.wv.ownBlock = some i) w w') : RPost κ w b p { e with own := l } (w'.setCell ⟨b, 6, none⟩ v') := by
  have hap : ∀ i, p.wv.ownBlock = some i → b ≠ i ∧ (p.ob ≠ i ∧ p.ib ≠ i) ∧ p.rb ≠ i ∧ ((∀ j, p.vo.ownBlock = some j → j ≠ i) ∧ ∀ j, p.vi.ownBlock = some j → j ≠ i) ∧ (∀ j, p.rv.ownBlock = some j → j ≠ i) ∧ ∀ j, p.tv.ownBlock = some j → j ≠ i := fun i hi => by
    obtain ⟨cs, hI⟩ := own_is h.own hi
    obtain ⟨a1, a2, a3, a4, a5, _, a7⟩ := h.apt hI
    exact ⟨a1 (nbq rfl), a2 (nbq rfl), a3 (nbq rfl), a4 (nbq rfl), a5 (nbq rfl), a7 (nbq rfl)⟩
  have hO2 : Only (fun i => p.wv.ownBlock = some i ∨ i = b) w (w'.setCell ⟨b, 6, none⟩ v') := (hO.mono (fun i hi => .inl hi)).set b 6 v' (fun _ => .inr rfl)
  obtain ⟨c1, c2, c3, c4, c5, c6, c7, c8⟩ := h.apart
  have hn : ∀ i, (∀ j, p.wv.ownBlock = some j → i ≠ j) → i ≠ b → ¬ (p.wv.ownBlock = some i ∨ i = b) := fun i h1 h2 hx => by
    rcases hx with hx | hx
    · exact h1 i hx rfl
    · exact h2 hx
  have hI := (h.blk.only hO (fun hb => (hap b hb).1 rfl)).set 6 v'
  have hbq : ∀ i, v'.ownBlock = some i → i ≠ b := fun i hi => by
    rcases hv with hv | hv
    · rw [hv] at hi
      exact c7 i hi
    · have := hv i hi
      have := h.blk.lt
      omega
  obtain ⟨s, f, r1, r2⟩ := h.rd
  refine ⟨{ p with wv := v' }, ⟨hI, h.out.only hO2 (hn _ (fun j hj => (hap j hj).2.1.1) (Ne.symm c1)) (fun i hi => hn i (fun j hj => (hap j hj).2.2.2.1.1 i hi) (c4 i hi)), h.inn.only hO2 (hn _ (fun j hj => (hap j hj).2.1.2) (Ne.symm c2)) (fun i hi => hn i (fun j hj => (hap j hj).2.2.2.1.2 i hi) (c5 i hi)), ⟨s, f, r1.only hO2 (hn _ (fun j hj => (hap j hj).2.2.1) (Ne.symm c3)), r2⟩, h.row.only hO2 (fun i hi => hn i (fun j hj => (hap j hj).2.2.2.2.1 i hi) (c6 i hi)), own_only hq ((Only.refl (· = b) w').set b 6 v' (fun _ => rfl)) hbq, own_only h.oth hO2 (fun i hi => hn i (fun j hj => (hap j hj).2.2.2.2.2 i hi) (c8 i hi)), h.ne, h.nv⟩, fun i hi => ?_, hO2.mono (fun i hi => ?_)⟩
  · rcases hi with hi | hi | hi | hi | hi | hi | hi | hi | hi
    · exact .inl (.inl hi)
    · exact .inl (.inr (.inl hi))
    · exact .inl (.inr (.inr (.inl hi)))
    · exact .inl (.inr (.inr (.inr (.inl hi))))
    · exact .inl (.inr (.inr (.inr (.inr (.inl hi)))))
    · exact .inl (.inr (.inr (.inr (.inr (.inr (.inl hi))))))
    · exact .inl (.inr (.inr (.inr (.inr (.inr (.inr (.inl hi)))))))
    · rcases hv with hv | hv
      · have hi : v'.ownBlock = some i := hi
        rw [hv] at hi
        exact .inl (.inr (.inr (.inr (.inr (.inr (.inr (.inr (.inl hi))))))))
      · exact .inr (hv i hi)
    · exact .inl (.inr (.inr (.inr (.inr (.inr (.inr (.inr (.inr hi))))))))
  · rcases hi with hi | hi
    · exact .inr (.inr (.inr (.inr (.inr (.inr (.inr (.inl hi)))))))
    · exact .inl hi
theorem below_two (w : World) (c d : Obj) : Below w.heap.size w ((w.alloc c).alloc d).drew.drew := by
  have h := ((Below.refl w.heap.size w).alloc (Nat.le_refl _) c).alloc (by simp) d
  exact ⟨h.os, h.tape, h.output, h.size, h.block⟩
theorem oth_news (w : World) (c : Obj) (y : Lk.Ot) : ∀ j u, (rtV y)[j]? = some u → ((w.alloc c).alloc (.cells #[.int .i64 (y.id : Int), .int .i64 (y.cr : Int), .int .i64 (y.held : Int), .bool y.opn, .bool y.drp] 265)).drew.drew.cell? ((⟨w.heap.size + 1, 0, none⟩ : Addr).add j) = some u := by
  intro j u hj
  have e : (⟨w.heap.size + 1, 0, none⟩ : Addr).add j = ⟨w.heap.size + 1, j, none⟩ := by unfold Addr.add; split <;> simp_all
  have hI := Is.new (w.alloc c) 265 (rtV y)
  rw [World.size_alloc] at hI
  rw [e]
  exact (hI.cell j).trans hj
theorem info_rot : (Tryz.prog.info? 265).map (fun i => (i.zero, i.size, i.bytes)) = some (some (.agg #[.int .i64 0, .int .i64 0, .int .i64 0, .bool false, .bool false]), 5, 32) := by kernel_rfl
theorem own_wk {w : World} {B B' : Nat} {e : TypeId} {size n : Nat} {v : Value} {xs : List Value} (h : w.ownsRow B e size v n xs) (hB : B' ≤ B) : w.ownsRow B' e size v n xs := by
  refine ⟨h.1, ?_⟩
  rcases h.2 with k | ⟨g, cap, cur, k0, k1, k2⟩
  · exact .inl k
  · exact .inr ⟨g, cap, cur, k0, by omega, k2⟩
theorem RGot.head {w wc w' : World} {b B : Nat} {E : Lk.En} {p p' : RP} {st : Nat} {hs : List Lk.Hd} {lv : Value} (h1 : REnd κ wc b E p') (h2 : ∀ i, rfoot b p' i → rfoot b p i ∨ w.heap.size ≤ i) (h3 : Only (rfoot b p) w wc) (hB : w.heap.size ≤ B) (hr : wc.ownsRow B 206 2 lv hs.length (hdsV hs)) (hn : ∀ i, lv.ownBlock = some i → ¬ rfoot b p' i)
    (hb : Below (wc.heap.size + 1) (wc.alloc (.cells #[.int .i64 1, .int .i64 (st : Int), .int .i64 0, lv, .string ⟨#[]⟩] 261)) w') :
    RGot κ w b p 0 E [⟨1, st, 0, hs, []⟩] (.returned (.tuple #[.slice (some ⟨wc.heap.size, 0, Option.none⟩) 1 1, .int .i64 0])) w' := by
  have hbw : Below wc.heap.size wc w' := ((Below.refl _ wc).alloc (Nat.le_refl _) _).trans (hb.mono (by omega))
  have hsz := h3.size
  refine ⟨_, [(⟨1, st, 0, hs, []⟩, lv)], p', rfl, rfl, ⟨own_wk (own_belowB (ev_row wc 261 (⟨1, st, 0, hs, []⟩, lv)) hb (by simp)) hsz, fun q hq => ?_⟩, fun i hi => ?_, h1.below hbw, h2, h3.trans (Only.of_below hbw _) (fun _ x _ => x)⟩
  · simp at hq
    subst hq
    exact own_wk (own_below hr hbw) hB
  · rcases hi with hi | ⟨q, hq, hi⟩
    · have hi : some wc.heap.size = some i := hi
      injection hi with hi
      exact fun hx => by have := h1.lt hx; omega
    · simp at hq
      subst hq
      exact hn i hi
end Go.Proofs.YtbkpdapagfjmmaaGreatDoor

namespace Go.Proofs.YtbkpdapagfjmmaaGreatDoor
open Go.RowKit
variable {κ : Prop}
theorem rhead_any (b : Nat) (e : Lk.En) (p : RP) (f : Lk.Fr) (w : World) (h : REnd κ w b e p) (hw : Lk.Wf e) (hd : f.d.length ≤ 64) (hst : f.st ≤ 268435455) (hl : e.row.length ≤ 2 ^ 41) :
    Calls Tryz.prog 180 #[.pointer (some ⟨b, 0, none⟩), frV f] w (RGot κ w b p (e.headF f).2.1 (e.headF f).2.2 (e.headF f).1) := by
  have htlen := hw.othLen
  have hwin := hw.win2
  have hside : e.side ≤ 1 := by have := hw.side; omega
  have hbW := (Below.refl w.heap.size w).alloc (Nat.le_refl _) (.cells #[.int .i64 (f.k : Int), .int .i64 (f.st : Int), .string (bs f.d)] 66)
  have hBx := Is.new w 66 [.int .i64 (f.k : Int), .int .i64 (f.st : Int), .string (bs f.d)]
  have hW := h.below hbW
  have HLE := hide (by simp : w.heap.size ≤ (w.alloc (.cells #[.int .i64 (f.k : Int), .int .i64 (f.st : Int), .string (bs f.d)] 66)).heap.size)
  have hwW : w.heap.size < (w.alloc (.cells #[.int .i64 (f.k : Int), .int .i64 (f.st : Int), .string (bs f.d)] 66)).heap.size := by simp
  have hft : ∀ i, rfoot b p i → i < w.heap.size := fun i hi => h.lt hi
  generalize hWW : w.alloc (.cells #[.int .i64 (f.k : Int), .int .i64 (f.st : Int), .string (bs f.d)] 66) = W at *
  have o1 : W.cell? ⟨w.heap.size, 1, none⟩ = some (.int .i64 (f.st : Int)) := hBx.cell 1
  have o2 : W.cell? ⟨w.heap.size, 2, none⟩ = some (.string (bs f.d)) := hBx.cell 2
  have c0 : W.cell? ⟨b, 0, none⟩ = some (.int .i64 (e.side : Int)) := hW.blk.cell 0
  have c1 : W.cell? ⟨b, 1, none⟩ = some (.int .i64 (e.win : Int)) := hW.blk.cell 1
  have c3 : W.cell? ⟨b, 3, none⟩ = some (ptr p.ib) := hW.blk.cell 3
  have c7 : W.cell? ⟨b, 7, none⟩ = some p.tv := hW.blk.cell 7
  have c11 : W.cell? ⟨b, 11, none⟩ = some (.bool e.byeS) := hW.blk.cell 11
  have hbl := hW.blk.lt
  obtain ⟨ta, tc, htv⟩ := row_form hW.oth
  rw [htv] at c7
  unfold ptr at c3
  have HBX := hide hBx
  have HW := hide (⟨hbW, hW, hft⟩ : _ ∧ _ ∧ _)
  have HTV := hide htv
  generalize hX : e.headF f = X
  unfold Lk.En.headF at hX
  have hes : (e.side : Int) ≤ 1 := by omega
  have hes0 : (0 : Int) ≤ e.side := by omega
  have htl : (e.oth.length : Int) ≤ 134217729 := by omega
  clear h hW hbW hBx hft htv
  by_cases hid : f.st ≠ 2 * e.oth.length + 2 - e.side
  · rw [if_pos hid] at hX
    obtain ⟨hbW, hW, hft⟩ := uh HW
    have HF : Hid (∀ W', Below W.heap.size W W' → RGot κ w b p X.2.1 X.2.2 X.1 (.returned (.tuple #[.slice none 0 0, .int .i64 4])) W') := by
      rw [← hX]
      exact fun W' hb' => RGot.none (R := 4) (RPost.before hbW ((RPost.same hW).after hb'))
    have hid' : ¬ (f.st : Int) = 2 * (e.oth.length : Int) + 2 - e.side := by omega
    clear hX hbW hW hft HW HBX hid
    go_enter Tryz.func180, Tryz.ntmps180
    go_wp2_with fail
    go_quiet (fail)
    go_wp2_with fail
    go_ret2
    exact uh HF _ ⟨rfl, rfl, rfl, Nat.le_refl _, fun _ _ => rfl⟩
  · rw [if_neg hid] at hX
    have hid1 : f.st = 2 * e.oth.length + 2 - e.side := by omega
    have hid' : 2 * (e.oth.length : Int) + 2 - e.side = (f.st : Int) := by omega
    have HST := hide (by omega : 0 < f.st)
    have hdl : (bs f.d).data.toList = f.d := by unfold bs; simp
    have hsd : (bs f.d).size ≤ 2 ^ 48 := by rw [bs_size]; omega
    generalize hXX : Lk.exR 100 f.d 6 e.inn 0 = XX at *
    have HE : Hid (∀ n, Calls Tryz.prog 63 #[.pointer (some ⟨p.ib, 0, none⟩), .string (bs f.d)] (W.drewN n) (RXPost (W.drewN n) p.ib 100 XX)) := fun n => rexpand_any p.ib 100 e.inn p.vi (bs f.d) (W.drewN n) hsd ((uh HW).2.1.below (w' := W.drewN n) ⟨rfl, rfl, rfl, Nat.le_refl _, fun _ _ => rfl⟩).inn XX (by rw [hdl]; exact hXX)
    clear hid hid1 hsd hdl
    cases XX with
    | err ec q =>
      have hec : ¬ (ec : Int) = 0 := by rcases Lk.exR_err _ _ _ _ _ _ _ hXX with h | h <;> omega
      simp only at hX
      have HF : Hid (∀ W', Below W.heap.size W W' → RGot κ w b p X.2.1 X.2.2 X.1 (.returned (.tuple #[.slice none 0 0, .int .i64 9])) W') := by
        rw [← hX]
        obtain ⟨hbW, hW, hft⟩ := uh HW
        exact fun W' hb' => RGot.none (R := 9) (RPost.before hbW ((RPost.same hW).after hb'))
      clear hXX hX
      go_enter Tryz.func180, Tryz.ntmps180
      go_wp2_with fail
      go_quiet (fail)
      go_wp2_with fail
      go_region_with (first | (go_at_call 63; refine (uh HE _).mono ?_; rintro r w3 ⟨rfl, hb3⟩))
      all_goals
        have HF3 := hide (uh HF w3 ⟨hb3.os, hb3.tape, hb3.output, hb3.size, hb3.block⟩)
        clear hb3
        go_wp2_with fail
        go_ret2
        exact uh HF3
    | ok hs L =>
      simp only at hX
      have HS3 : Hid (∀ n w3 v3 s6, RTab w3 p.ib 100 L v3 → Turns p.ib (W.drewN n) w3 → (∀ k, v3.ownBlock = some k → (W.drewN n).heap.size ≤ k) → w3.ownsRow (W.drewN n).heap.size 206 2 s6 hs.length (hdsV hs) → (s6.ownBlock = none ∨ s6.ownBlock ≠ v3.ownBlock) → ((∀ i, rfoot b { p with vi := v3 } i → rfoot b p i ∨ w.heap.size ≤ i) ∧ Only (rfoot b p) w w3 ∧ REnd κ w3 b { e with inn := L } { p with vi := v3 } ∧ Is w3 w.heap.size 66 [.int .i64 (f.k : Int), .int .i64 (f.st : Int), .string (bs f.d)] ∧ w3.ownsRow W.heap.size 206 2 s6 hs.length (hdsV hs) ∧ (∀ i, s6.ownBlock = some i → ¬ rfoot b { p with vi := v3 } i))) := by
        intro n w3 v3 s6 k3 k4 k5 k6 k7
        obtain ⟨hbW, hW, hft⟩ := uh HW
        have k1 : Below W.heap.size W (W.drewN n) := ⟨rfl, rfl, rfl, Nat.le_refl _, fun _ _ => rfl⟩
        obtain ⟨q1, q2, q3⟩ := (hW.below k1).turnIn k3 k4 k5
        have hsn : w.heap.size ≤ (W.drewN n).heap.size := Nat.le_of_lt hwW
        refine ⟨fun i hi => (q2 i hi).imp id (fun x => Nat.le_trans hsn x), ((Only.of_below hbW _).trans (Only.of_below k1 _) (fun _ x _ => x)).trans q3 (fun _ x _ => x), q1, (((uh HBX).below k1 hwW).only (Only.of_turns k4) (fun hx => ?_)), k6, fun i hi hx => ?_⟩
        · have := hft p.ib (.inr (.inr (.inl rfl)))
          omega
        · obtain ⟨cs, hI⟩ := own_is k6 hi
          obtain ⟨a1, a2, a3, _, a5, a6, a7⟩ := q1.apt hI
          have a1 := a1 (nbq rfl)
          have a2 := a2 (nbq rfl)
          have a3 := a3 (nbq rfl)
          have a5 := a5 (nbq rfl)
          have a6 := a6 (nbq rfl)
          have a7 := a7 (nbq rfl)
          rcases hx with k | k | k | k | k | k | k | k | k
          · exact a1 k.symm
          · exact a2.1 k.symm
          · exact a2.2 k.symm
          · exact a3 k.symm
          · have g1 := hft i (.inr (.inr (.inr (.inr (.inl k)))))
            have g2 := (k6.lt i hi).1
            omega
          · rcases k7 with k7 | k7
            · rw [k7] at hi; cases hi
            · exact k7 (hi.trans k.symm)
          · exact a5 i k rfl
          · exact a6 i k rfl
          · exact a7 i k rfl
      have HXX := hide hX
      clear hXX hX
      obtain ⟨B, hbs⟩ : ∃ B, e.byeS = B := ⟨_, rfl⟩
      rw [hbs] at c11
      have HBS := hide hbs
      clear hbs
      go_enter Tryz.func180, Tryz.ntmps180
      go_wp2_with fail
      go_quiet (fail)
      go_upto_region 3 with fail
      go_cut [6, 7] (fun s6 s7 w3 => s7 = .int .i64 0 ∧ ∃ v3, Hid ((∀ i, rfoot b { p with vi := v3 } i → rfoot b p i ∨ w.heap.size ≤ i) ∧ Only (rfoot b p) w w3 ∧ REnd κ w3 b { e with inn := L } { p with vi := v3 } ∧ Is w3 w.heap.size 66 [.int .i64 (f.k : Int), .int .i64 (f.st : Int), .string (bs f.d)] ∧ w3.ownsRow W.heap.size 206 2 s6 hs.length (hdsV hs) ∧ (∀ i, s6.ownBlock = some i → ¬ rfoot b { p with vi := v3 } i)))
      case first =>
        go_region_with (first | (go_at_call 63; refine (uh HE _).mono ?_; rintro r w3 ⟨⟨lv, v3, rfl, ho3, hT3, h6, hv3, hdis⟩, hTu3⟩))
        all_goals
          have HC := hide (uh HS3 _ _ _ _ hT3 hTu3 hv3 ho3 hdis)
          clear ho3 hT3 hv3 hdis hTu3
          go_wp2_with fail
          go_meet
          exact ⟨rfl, v3, HC⟩
      case rest =>
        obtain ⟨rfl, v3, HC⟩ := hcut
        obtain ⟨hf3, hP3, hR3, hI3, hO3, hd3⟩ := uh HC
        obtain ⟨la, lc, rfl⟩ := row_form hO3
        have q1 : wc.cell? ⟨b, 1, none⟩ = some (.int .i64 (e.win : Int)) := hR3.blk.cell 1
        have q7 : wc.cell? ⟨b, 7, none⟩ = some p.tv := hR3.blk.cell 7
        rw [uh HTV] at q7
        have q11 : wc.cell? ⟨b, 11, none⟩ = some (.bool e.byeS) := hR3.blk.cell 11
        rw [uh HBS] at q11
        have y1 : wc.cell? ⟨w.heap.size, 1, none⟩ = some (.int .i64 (f.st : Int)) := hI3.cell 1
        have yl := hI3.lt
        have ql := hR3.blk.lt
        obtain ⟨inf, hi, hz0, hz1, hz2⟩ := info_parts info_rot
        have HQ : Hid (∀ Wx w1 g1 cap1, Below wc.heap.size wc Wx → Wx.grownBy w1 (Value.slice ta e.oth.length tc).ownBlock → w1.ownsRow 0 265 5 (.slice (some ⟨g1, 0, none⟩) (e.oth.length + 1) cap1) (e.oth.length + 1) (rtsV e.oth ++ rtV ⟨f.st, e.win, 0, !B, B⟩) → ((Value.slice ta e.oth.length tc).ownBlock = some g1 ∨ Wx.heap.size ≤ g1) → (w1.cell? ⟨b, 7, none⟩ = some (.slice ta e.oth.length tc) ∧ w1.frozen? ⟨b, 7, none⟩ = false ∧ b < w1.heap.size) ∧ ∀ w7, w7 = w1.setCell ⟨b, 7, none⟩ (.slice (some ⟨g1, 0, none⟩) (e.oth.length + 1) cap1) → ∃ p7, Hid (REnd κ w7 b { e with inn := L, oth := e.oth ++ [⟨f.st, e.win, 0, !B, B⟩] } p7 ∧ (∀ i, rfoot b p7 i → rfoot b p i ∨ w.heap.size ≤ i) ∧ Only (rfoot b p) w w7 ∧ Is w7 w.heap.size 66 [.int .i64 (f.k : Int), .int .i64 (f.st : Int), .string (bs f.d)] ∧ w7.ownsRow W.heap.size 206 2 (.slice la hs.length lc) hs.length (hdsV hs) ∧ (∀ i, (Value.slice la hs.length lc).ownBlock = some i → ¬ rfoot b p7 i))) := by
          intro Wx w1 g1 cap1 k1 k2 k3 k4
          have hRx := hR3.below k1
          rw [← uh HTV] at k2 k4
          have e1 : rtsV e.oth ++ rtV ⟨f.st, e.win, 0, !B, B⟩ = rtsV (e.oth ++ [⟨f.st, e.win, 0, !B, B⟩]) := by simp [rtsV]
          have e2 : e.oth.length + 1 = (e.oth ++ [(⟨f.st, e.win, 0, !B, B⟩ : Lk.Ot)]).length := by simp
          have hO : Only (fun i => p.tv.ownBlock = some i) Wx w1 := (Only.of_grown k2).mono (fun i hi => hi.symm)
          have hb' := hRx.blk.only hO (fun hx => (hRx.apart.2.2.2.2.2.2.2 b hx) rfl)
          have hc7 : w1.cell? ⟨b, 7, none⟩ = some p.tv := hb'.cell 7
          rw [uh HTV] at hc7
          refine ⟨⟨hc7, hb'.free 7, hb'.lt⟩, ?_⟩
          rw [e1, e2] at k3
          intro w7 hw7
          rw [e2] at hw7
          have hq := hRx.pushTv (v' := .slice (some ⟨g1, 0, none⟩) (e.oth ++ [(⟨f.st, e.win, 0, !B, B⟩ : Lk.Ot)]).length cap1) k3 (k4.imp (fun x => x.symm) (fun x k hk => by have hk : some g1 = some k := hk; injection hk with hk; omega)) hO
          rw [← hw7] at hq
          obtain ⟨p7, z1, z2, z3⟩ := hq
          have hsx := k1.size
          refine ⟨p7, z1, fun i hi => ?_, ?_, ?_, ?_, fun i hi hx => ?_⟩
          · rcases z2 i hi with x | x
            · exact hf3 i x
            · exact .inr (by omega)
          · refine (hP3.trans (Only.of_below k1 _) (fun _ x _ => x)).trans z3 (fun i hx hlt => ?_)
            rcases hf3 i hx with x | x
            · exact x
            · omega
          · refine (hI3.below k1 hI3.lt).only z3 (fun hx => ?_)
            obtain ⟨a1, a2, a3, a4, a5, a6, a7⟩ := hR3.apt hI3
            have a1 := a1 (nbq rfl)
            have a2 := a2 (nbq rfl)
            have a3 := a3 (nbq rfl)
            have a4 := a4 (nbq rfl)
            have a5 := a5 (nbq rfl)
            have a6 := a6 (nbq rfl)
            have a7 := a7 (nbq rfl)
            rcases hx with k | k | k | k | k | k | k | k | k
            · exact a1 k.symm
            · exact a2.1 k.symm
            · exact a2.2 k.symm
            · exact a3 k.symm
            · exact a4.1 _ k rfl
            · exact a4.2 _ k rfl
            · exact a5 _ k rfl
            · exact a6 _ k rfl
            · exact a7 _ k rfl
          · refine own_only (own_below hO3 k1) z3 (fun i hi => hd3 i hi)
          · rcases z2 i hx with x | x
            · exact hd3 i hi x
            · have := (hO3.lt i hi).2
              omega
        have HOT : Hid (∀ Wx, Below wc.heap.size wc Wx → Wx.ownsRow 0 265 5 (.slice ta e.oth.length tc) e.oth.length (rtsV e.oth)) := by
          intro Wx k1
          have := (hR3.below k1).oth
          rw [← uh HTV]
          exact this
        clear hf3 o1 o2 c0 c1 c3 c7 c11 hbl hwW hP3 hR3 hI3 hO3 hd3 HE HS3 HBX HW hWW
        go_wp2_with fail
        go_region
        go_upto_region 7 with fail
        obtain ⟨wa, hwa⟩ : ∃ wa, wa = wc := ⟨_, rfl⟩
        subst hwa
        go_cut [] (fun w7 => ∃ p7, Hid (REnd κ w7 b { e with inn := L, oth := e.oth ++ [⟨f.st, e.win, 0, !B, B⟩] } p7 ∧ (∀ i, rfoot b p7 i → rfoot b p i ∨ w.heap.size ≤ i) ∧ Only (rfoot b p) w w7 ∧ Is w7 w.heap.size 66 [.int .i64 (f.k : Int), .int .i64 (f.st : Int), .string (bs f.d)] ∧ w7.ownsRow W.heap.size 206 2 (.slice la hs.length lc) hs.length (hdsV hs) ∧ (∀ i, (Value.slice la hs.length lc).ownBlock = some i → ¬ rfoot b p7 i)))
        case first =>
         go_region_law (first
          | (refine step_append_lies _ rfl _ _ 198 rfl 0 265 inf _ 5 32 Tryz.underlying198 hi hz0 hz1 hz2 rfl (Nat.succ_pos 4) (.slice ta e.oth.length tc) e.oth.length (rtsV e.oth) rfl (uh HOT _ ?_) ⟨wa.heap.size + 1, 0, none⟩ 1 1 (rtV ⟨f.st, e.win, 0, !B, B⟩) rfl rfl ?_ ?_ ?_ ?_ ?_ ?_ (wa.heap.size + 2) ?_ ?_
             exact below_two wa _ _
             exact oth_news wa _ _
             (intro u hu; simp [rtV] at hu; rcases hu with rfl | rfl | rfl | rfl | rfl <;> rfl)
             exact Nat.one_pos
             (unfold maxLen; omega)
             omega
             exact Nat.zero_le _
             simp
             intro g1 cap1 w1 ho1 hg1 hor1 hlt1
             obtain ⟨⟨z7, zf, zl⟩, hP7⟩ := uh HQ _ w1 g1 cap1 (below_two wa _ _) hg1 ho1 (by rcases hor1 with h | h; exact .inl h; exact .inr (by rw [h]; simp))
             have HP7 := hide hP7
             clear ho1 hg1 hor1 hP7))
         all_goals
          go_wp2_with fail
          go_meet
          exact uh HP7 _ rfl
        case rest =>
         obtain ⟨p7, HC7⟩ := hcut
         obtain ⟨hR7, hf7, hO7, hI7, hr7, hn7⟩ := uh HC7
         have y1 : wc.cell? ⟨w.heap.size, 1, none⟩ = some (.int .i64 (f.st : Int)) := hI7.cell 1
         have q11 : wc.cell? ⟨b, 11, none⟩ = some (.bool e.byeS) := hR7.blk.cell 11
         rw [uh HBS] at q11
         have ql := hR7.blk.lt
         have yl := hI7.lt
         clear hR7 hf7 hO7 hI7 hr7 hn7 HQ HOT HC
         cases B with
         | false =>
          have HF : Hid (∀ W', Below (wc.heap.size + 1) (wc.alloc (.cells #[.int .i64 1, .int .i64 (f.st : Int), .int .i64 0, .slice la hs.length lc, .string ⟨#[]⟩] 261)) W' → RGot κ w b p X.2.1 X.2.2 X.1 (.returned (.tuple #[.slice (some ⟨wc.heap.size, 0, none⟩) 1 1, .int .i64 0])) W') := by
            obtain ⟨hR7, hf7, hO7, hI7, hr7, hn7⟩ := uh HC7
            have hX := uh HXX
            rw [if_neg (by rw [uh HBS]; simp)] at hX
            rw [← hX]
            exact fun W' hb => RGot.head hR7 hf7 hO7 (uh HLE) hr7 hn7 hb
          clear HXX HC7
          go_wp2_with fail
          go_ret2
          exact uh HF _ ⟨rfl, rfl, rfl, by simp, fun _ _ => rfl⟩
         | true =>
          have HNUM := hide (fun W => rnumber_at 0 0 W rfl (by omega))
          have HS : Hid (∀ n w8, Below wc.heap.size (wc.drewN n) w8 → (w8.cell? ⟨w.heap.size, 1, none⟩ = some (.int .i64 (f.st : Int)) ∧ w.heap.size < w8.heap.size) ∧ Calls Tryz.prog 162 #[.pointer (some ⟨b, 0, none⟩), .int .i64 3, .int .i64 (f.st : Int), .string (bs (Lk.wire 0))] w8 fun r w9 => r = .returned (.tuple #[]) ∧ ∀ W', Below w9.heap.size w9 W' → RGot κ w b p X.2.1 X.2.2 X.1 (.returned (.tuple #[.slice none 0 0, .int .i64 0])) W') := by
            obtain ⟨hR7, hf7, hO7, hI7, hr7, hn7⟩ := uh HC7
            have hX := uh HXX
            rw [if_pos (uh HBS)] at hX
            intro n w8 hb8
            have hb8 : Below wc.heap.size wc w8 := ⟨hb8.os, hb8.tape, hb8.output, hb8.size, hb8.block⟩
            have hI8 := hI7.below hb8 hI7.lt
            refine ⟨⟨hI8.cell 1, hI8.lt⟩, ?_⟩
            have k1 := hb8
            refine (rsend_any b _ p7 3 f.st (Lk.wire 0) w8 (hR7.below k1) (Lk.good_reset f.st 0 (uh HST) hst (by omega)) (by show e.row.length ≤ _; omega)).mono ?_
            rintro r w9 ⟨rfl, hP⟩
            refine ⟨rfl, fun W' hb' => ?_⟩
            rw [← hX]
            exact RGot.none (R := 0) (RPost.trans hf7 hO7 (RPost.before k1 (hP.after hb')))
          clear HXX HC7
          go_wp2_with fail
          go_region_with (first
            | (go_at_call 99; refine (uh HNUM _).mono ?_; rintro r w8 ⟨rfl, hb8⟩; obtain ⟨⟨y8, yl8⟩, hs8⟩ := uh HS _ w8 hb8; have HS8 := hide hs8; clear hs8 hb8)
            | (go_at_call 162; refine (uh HS8).mono ?_; rintro r w9 ⟨rfl, hP⟩; have HP9 := hide hP; clear hP))
          all_goals
            go_wp2_with fail
            go_ret2
            exact uh HP9 _ ⟨rfl, rfl, rfl, Nat.le_refl _, fun _ _ => rfl⟩
end Go.Proofs.YtbkpdapagfjmmaaGreatDoor
