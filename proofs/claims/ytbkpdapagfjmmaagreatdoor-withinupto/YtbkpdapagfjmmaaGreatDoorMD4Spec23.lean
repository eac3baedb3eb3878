import Derived.Test.YtbkpdapagfjmmaaGreatDoorMSpec22D3
import Derived.Test.YtbkpdapagfjmmaaGreatDoorMSpec20Spec21
/-
  Walks: what a script has made: two readers of each side.
-/
namespace Go.Proofs.YtbkpdapagfjmmaaGreatDoor
open Go.RowKit

theorem info_pr : (Tryz.prog.info? 133).map (fun i => (i.zero, i.size, i.bytes)) = some (some (.pointer none), 1, 8) := by kernel_rfl
theorem info_ps : (Tryz.prog.info? 52).map (fun i => (i.zero, i.size, i.bytes)) = some (some (.pointer none), 1, 8) := by kernel_rfl

/-- A row of pointers to readers, all new; each is as at its start. -/
structure Readers (B : Nat) (w : World) (E T : TypeId) (cs : List Value) (v : Value) (rs : List Nat) : Prop where
  own : w.ownsRow B E 1 v rs.length (rs.map ptr)
  nd : rs.Nodup
  is : ∀ r ∈ rs, B ≤ r ∧ Is w r T cs

theorem Readers.nil (B : Nat) (w : World) (E T : TypeId) (cs : List Value) : Readers B w E T cs nilS [] := ⟨World.ownsRow_nil _ _ _ _, List.nodup_nil, by simp⟩

theorem Readers.grown {B : Nat} {w w' : World} {E T : TypeId} {cs : List Value} {v : Value} {rs : List Nat} (h : Readers B w E T cs v rs) {row : Option Nat} (hg : w.grownBy w' row)
    (h1 : v.ownBlock = none ∨ v.ownBlock ≠ row) (h2 : ∀ r ∈ rs, some r ≠ row) : Readers B w' E T cs v rs :=
  ⟨h.own.kept hg h1, h.nd, fun r hr => ⟨(h.is r hr).1, (h.is r hr).2.grown hg (h2 r hr)⟩⟩

theorem Readers.below {B : Nat} {w w' : World} {E T : TypeId} {cs : List Value} {v : Value} {rs : List Nat} (h : Readers B w E T cs v rs) (hb : Below w.heap.size w w') : Readers B w' E T cs v rs :=
  h.grown (row := none) ⟨hb.os, hb.tape, hb.output, hb.size, fun i hi _ => hb.block i hi⟩ (by cases v.ownBlock <;> simp) (by simp)

theorem Readers.push {B : Nat} {w w2 : World} {E T : TypeId} {cs : List Value} {v v2 : Value} {rs : List Nat} (h : Readers B w E T cs v rs) (hT : T ≠ E) (o : Obj)
    (hg : ((w.alloc (.cells cs.toArray T)).alloc o).grownBy w2 v.ownBlock) (hown : w2.ownsRow B E 1 v2 (rs.length + 1) (rs.map ptr ++ [ptr w.heap.size])) (hB : B ≤ w.heap.size) : Readers B w2 E T cs v2 (rs ++ [w.heap.size]) := by
  refine ⟨by simpa using hown, ?_, ?_⟩
  · rw [List.nodup_append]
    refine ⟨h.nd, by simp, ?_⟩
    intro r hr s hs
    simp at hs
    have := (h.is r hr).2.lt
    omega
  · intro r hr
    rw [List.mem_append] at hr
    rcases hr with hr | hr
    · exact ⟨(h.is r hr).1, (((h.is r hr).2.alloc _).alloc _).grown hg (own_ne h.own (h.is r hr).2 hT)⟩
    · simp at hr
      subst hr
      refine ⟨hB, ((Is.new w T cs).alloc _).grown hg ?_⟩
      intro e
      have := (h.own.lt _ e.symm).2
      omega

theorem Readers.alloc {B : Nat} {w : World} {E T : TypeId} {cs : List Value} {v : Value} {rs : List Nat} (h : Readers B w E T cs v rs) (o : Obj) : Readers B (w.alloc o) E T cs v rs :=
  h.below ((Below.refl _ _).alloc (Nat.le_refl _) o)

theorem Readers.setAt {B : Nat} {w : World} {E T T' : TypeId} {cs cs' : List Value} {v : Value} {rs : List Nat} {M : Nat} (h : Readers B w E T cs v rs) (hM : Is w M T' cs') (h1 : T' ≠ E) (h2 : T' ≠ T) (i : Nat) (x : Value) : Readers B (w.setCell ⟨M, i, none⟩ x) E T cs v rs := by
  refine h.grown (grownBy_set w M i x) ?_ ?_
  · right
    exact fun e => own_ne h.own hM h1 e.symm
  · intro r hr e
    have e' : r = M := by simpa using e
    exact (h.is r hr).2.ne hM (fun e => h2 e.symm) e'

/-- While two readers of each side are made. -/
structure Making (B M : Nat) (pv : Value) (w : World) (vR vS : Value) (rs ss : List Nat) : Prop where
  made : Is w M 132 [vR, vS, nilS, nilS, nilS, nilS, pv]
  R : Readers B w 133 85 [.string ⟨#[]⟩, .int .i64 0, .int .i64 0] vR rs
  S : Readers B w 52 54 [.string ⟨#[]⟩, .int .i64 0] vS ss

set_option maxHeartbeats 1000000 in
set_option maxRecDepth 100000 in
theorem made_any (w : World) :
    Calls Tryz.prog 26 #[.int .i64 0, .int .i64 1, .int .i64 3] w fun e w' =>
      e = .returned (.tuple #[ptr (w.heap.size + 1), .bool true]) ∧ (∃ vR vS rs ss, rs.length = 2 ∧ ss.length = 2 ∧ Making w.heap.size (w.heap.size + 1) (.slice (some ⟨w.heap.size, 0, none⟩) 2 2) w' vR vS rs ss) ∧ Below w.heap.size w w' := by
  obtain ⟨i, hi, hz0, hz1, hz2⟩ := info_parts info_pr
  obtain ⟨j, hj, hy0, hy1, hy2⟩ := info_parts info_ps
  go_enter Tryz.func26, Tryz.ntmps26
  go_wp2_with fail
  go_loopw [9] (fun k wr => ∃ (n : Nat) (vR vS : Value) (rs ss : List Nat), n ≤ 2 ∧ k = .int .i64 n ∧ rs.length = n ∧ ss.length = n ∧ Making w.heap.size (w.heap.size + 1) (.slice (some ⟨w.heap.size, 0, none⟩) 2 2) wr vR vS rs ss ∧ Below w.heap.size w wr) (fun k _ => 2 - (intOf k).toNat)
  case atStart =>
    refine ⟨0, _, _, [], [], by omega, rfl, rfl, rfl, ⟨?_, Readers.nil _ _ _ _ _, Readers.nil _ _ _ _ _⟩, by ((repeat' (first | exact Below.refl _ _ | assumption | apply Below.drew | apply Below.alloc | apply Below.setCell)) <;> (simp <;> omega))⟩
    have := Is.new (w.alloc (.cells #[.string ⟨#[]⟩, .string ⟨#[]⟩] 9)) 132 [nilS, nilS, nilS, nilS, nilS, nilS, .slice (some ⟨w.heap.size, 0, none⟩) 2 2]
    simpa using this
  case round =>
    obtain ⟨n, vR, vS, rs, ss, hn, rfl, rfl, hss, hM, hbel⟩ := hrel
    have HSS := hide hss
    clear hss
    by_cases hlt : rs.length < 2
    · have hlt' : (rs.length : Int) < 2 := by omega
      have hls : ss.length < 2 := by have := unhide HSS; omega
      have m0 := hM.made.cell 0
      simp only [List.getElem?_cons_zero] at m0
      have hMl := hM.made.lt
      have hMl2 : w.heap.size < wr.heap.size := by omega
      go_wp2_with fail
      go_cut [] (fun wc => ∃ v2, Making w.heap.size (w.heap.size + 1) (.slice (some ⟨w.heap.size, 0, none⟩) 2 2) wc v2 vS (rs ++ [wr.heap.size]) ss ∧ Below w.heap.size w wc)
      case first =>
        go_region_law (first
          | (refine step_append_lies _ rfl _ _ 125 rfl w.heap.size 133 i (.pointer none) 1 8 Tryz.underlying125 hi hz0 hz1 hz2 rfl (Nat.succ_pos 0) vR rs.length (rs.map ptr) rfl ((hM.R.own.alloc _).alloc _) ⟨wr.heap.size + 1, 0, none⟩ 1 1 [ptr wr.heap.size] rfl rfl ?_ ?_ ?_ ?_ ?_ ?_ (wr.heap.size + 1 + 1) ?_ ?_
             (refine one_new_at _ _ _ _ ?_; simp)
             simp [Value.oneCell', ptr]
             omega
             (unfold maxLen; omega)
             omega
             (have := hbel.size; simp <;> omega)
             simp
             intro g1 cap1 w1 ho1 hg1 hor1 hlt1
             have hM1 := (((hM.made.alloc (.cells #[.string ⟨#[]⟩, .int .i64 0, .int .i64 0] 85)).alloc (.cells #[ptr wr.heap.size] 133)).drew).grown hg1 (own_ne hM.R.own hM.made (Nat.ne_of_beq_eq_false rfl))
             have k0 := hM1.cell 0
             have k0f := hM1.free 0
             simp only [List.getElem?_cons_zero] at k0)
          | (go_simp; go_at_call 51; refine (newReader_any _).mono ?_; rintro e w' ⟨rfl, rfl⟩))
        all_goals
          go_wp2_with fail
          go_meet
          have hg := undrew hg1
          have hb2 : Below w.heap.size w w1 := ((hbel.alloc hbel.size _).alloc (by have := hbel.size; simp; omega) _).grown hg (by have := hbel.size; simp; omega) (fun k hk => (hM.R.own.lt k hk).1)
          have hR := hM.R.push (Nat.ne_of_beq_eq_false rfl) _ hg ho1 hbel.size
          have hS := ((hM.S.alloc _).alloc _).grown hg (own_own_ne hM.S.own hM.R.own (Nat.ne_of_beq_eq_false rfl)) (fun s hs => own_ne hM.R.own (hM.S.is s hs).2 (Nat.ne_of_beq_eq_false rfl))
          exact ⟨_, ⟨hM1.set 0 _, hR.setAt hM1 (Nat.ne_of_beq_eq_false rfl) (Nat.ne_of_beq_eq_false rfl) 0 _, hS.setAt hM1 (Nat.ne_of_beq_eq_false rfl) (Nat.ne_of_beq_eq_false rfl) 0 _⟩, hb2.setCell (by simp) _⟩
      case rest =>
        obtain ⟨v2, hM2, hb2⟩ := hcut
        clear hM hbel m0 hMl hMl2
        have m1 := hM2.made.cell 1
        simp only [List.getElem?_cons_zero, List.getElem?_cons_succ] at m1
        have hMl := hM2.made.lt
        have hMl2 : w.heap.size < wc.heap.size := by omega
        go_wp2_with (at_builtin; refine wpList_append_own _ rfl _ _ 126 rfl w.heap.size 52 j (.pointer none) 1 8 Tryz.underlying126 hj hy0 hy1 hy2 rfl (by decide) vS ss.length (ss.map ptr) rfl ((hM2.S.own.alloc _).alloc _) ⟨wc.heap.size + 1, 0, none⟩ 1 1 [ptr wc.heap.size] rfl rfl ?hnews ?h1 ?h63 ?hby ?hba ?_)
        case hnews =>
          have e := cell_one_new (wc.alloc (.cells #[.string ⟨#[]⟩, .int .i64 0] 54)) (ptr wc.heap.size) 52
          rw [World.size_alloc] at e
          exact e
        case h1 => simp [Value.oneCell', ptr]
        case h63 => unfold maxLen; omega
        case hby => omega
        case hba => have := hb2.size; simp; omega
        intro v3 w3 ho3 hg3 _
        have hM3 := ((hM2.made.alloc (.cells #[.string ⟨#[]⟩, .int .i64 0] 54)).alloc (.cells #[ptr wc.heap.size] 52)).grown hg3 (own_ne hM2.S.own hM2.made (Nat.ne_of_beq_eq_false rfl))
        have hS3 := hM2.S.push (Nat.ne_of_beq_eq_false rfl) _ hg3 ho3 hb2.size
        have hR3 := ((hM2.R.alloc _).alloc _).grown hg3 (own_own_ne hM2.R.own hM2.S.own (Nat.ne_of_beq_eq_false rfl)) (fun s hs => own_ne hM2.S.own (hM2.R.is s hs).2 (Nat.ne_of_beq_eq_false rfl))
        have hb3 : Below w.heap.size w w3 := ((hb2.alloc hb2.size _).alloc (by have := hb2.size; simp; omega) _).grown hg3 (by have := hb2.size; simp; omega) (fun k hk => (hM2.S.own.lt k hk).1)
        clear hM2 hb2 m1 hMl hMl2 hg3 ho3
        obtain ⟨gS, capS, rfl⟩ : ∃ gS capS, v3 = .slice (some ⟨gS, 0, none⟩) (ss.length + 1) capS := by
          rcases hS3.own.2 with ⟨_, h0⟩ | ⟨g, cap, cur, h, _⟩
          · simp at h0
          · exact ⟨g, cap, by simpa using h⟩
        have q0 := hM3.cell 0
        have q1 := hM3.cell 1
        have q1f := hM3.free 1
        simp only [List.getElem?_cons_zero, List.getElem?_cons_succ] at q0 q1
        rcases hR3.own.2 with ⟨_, h0⟩ | ⟨g, cap, cur, rfl, hgB, hgg, hgn, hcm, hcs, htk⟩
        · simp at h0
        have hG : Is w3 g 133 cur.toList := by unfold Is; simpa using hgg
        have hgM := hG.ne hM3 (Nat.ne_of_beq_eq_false rfl)
        have hgc : w3.cell? ⟨g, rs.length, none⟩ = some (ptr wr.heap.size) := by
          rw [hG.cell]
          have e := congrArg (fun l => l[rs.length]?) htk
          simp only [List.length_append, List.length_cons, List.length_nil, Nat.mul_one] at e
          rw [List.getElem?_take_of_lt (by omega)] at e
          rw [e]
          simp
        have hgM1 : ¬ w.heap.size + 1 = g := fun e => hgM e.symm
        have hgM2 : ¬ g = w.heap.size + 1 := hgM
        unfold ptr at hgc
        simp only [List.length_append, List.length_cons, List.length_nil] at q0 hgn
        clear hG hgM hgg htk hcs
        go_wp2_with fail
        go_roundw
        case rel =>
          refine ⟨rs.length + 1, _, _, rs ++ [wr.heap.size], ss ++ [wc.heap.size], by omega, by go_num, by simp, by have := unhide HSS; simp; omega, ⟨hM3.set 1 _, hR3.setAt hM3 (Nat.ne_of_beq_eq_false rfl) (Nat.ne_of_beq_eq_false rfl) 1 _, hS3.setAt hM3 (Nat.ne_of_beq_eq_false rfl) (Nat.ne_of_beq_eq_false rfl) 1 _⟩, hb3.setCell (by simp) _⟩
        case measure => simp [intOf]; omega
    · have hlt' : ¬ (rs.length : Int) < 2 := by omega
      go_wp2_with fail
      go_ret2
      exact ⟨rfl, ⟨vR, vS, rs, by omega, ss, by have := unhide HSS; omega, hM⟩, hbel⟩

end Go.Proofs.YtbkpdapagfjmmaaGreatDoor

/-
  The two readers of each side, as the script's steps find them.
-/
namespace Go.Proofs.YtbkpdapagfjmmaaGreatDoor
open Go.RowKit

theorem refFeed_any (b : Nat) (s t : ByteArray) (l : Lk.Bs) (f : Int) (w : World) (hs : f = 0 → s.data.toList = l ∧ l.length ≤ 72) (ht : t.size ≤ 2 ^ 39) (hI : Is w b 54 [.string s, .int .i64 f]) :
    Calls Tryz.prog 21 #[.pointer (some ⟨b, 0, none⟩), .string t] w fun e w' =>
      ∃ v, e = .returned (.tuple #[v, .int .i64 (Lk.fedErr l f t.data.toList)])
        ∧ w'.ownsRow w.heap.size 66 3 v (Lk.fedFrames l f t.data.toList).length (framesV (Lk.fedFrames l f t.data.toList))
        ∧ (∃ s' : ByteArray, Is w' b 54 [.string s', .int .i64 (Lk.fedErr l f t.data.toList)] ∧ (Lk.fedErr l f t.data.toList = 0 → s'.data.toList = Lk.fedRest l f t.data.toList))
        ∧ Turns b w w' := by
  unfold Lk.fedErr Lk.fedFrames Lk.fedRest
  by_cases hf : f = 0
  · subst hf
    obtain ⟨rfl, hl⟩ := hs rfl
    simp only [if_true]
    refine (refFeed_ok b s t w (by rw [size_list]; omega) hI).mono ?_
    rintro e w' ⟨v, rfl, ho, ⟨R, hI', hR⟩, hT⟩
    exact ⟨v, rfl, ho, ⟨R, hI', fun h => hR (by omega)⟩, hT⟩
  · simp only [if_neg hf]
    refine (refFeed_bad b s t f w hf hI).mono ?_
    rintro e w' ⟨rfl, n, rfl⟩
    exact ⟨_, rfl, World.ownsRow_nil _ _ _ _, ⟨s, hI.drewN n, fun h => absurd h hf⟩, (Turns.refl _ _).drewN n⟩

/-- A reader of each side: they keep the same, and have the same error. -/
def Pairs (w : World) (r s : Nat) : Prop := ∃ (t R : ByteArray) (f : Int), Is w r 85 [.string t, .int .i64 0, .int .i64 f] ∧ Is w s 54 [.string R, .int .i64 f] ∧ (f = 0 → R.data.toList = t.data.toList ∧ t.size ≤ 72)

theorem Pairs.grown {w w' : World} {r s : Nat} (h : Pairs w r s) {row : Option Nat} (hg : w.grownBy w' row) (h1 : some r ≠ row) (h2 : some s ≠ row) : Pairs w' r s := by
  obtain ⟨t, R, f, a, b, c⟩ := h
  exact ⟨t, R, f, a.grown hg h1, b.grown hg h2, c⟩

/-- All that a script's steps find. -/
structure Rig (B M gR gS cR cS : Nat) (pv : Value) (r0 r1 s0 s1 : Nat) (w : World) : Prop where
  made : Is w M 132 [.slice (some ⟨gR, 0, none⟩) 2 cR, .slice (some ⟨gS, 0, none⟩) 2 cS, nilS, nilS, nilS, nilS, pv]
  rowR : ∃ t, Is w gR 133 (ptr r0 :: ptr r1 :: t)
  rowS : ∃ t, Is w gS 52 (ptr s0 :: ptr s1 :: t)
  p0 : Pairs w r0 s0
  p1 : Pairs w r1 s1
  ner : r0 ≠ r1
  nes : s0 ≠ s1
  hM : B ≤ M
  hR : B ≤ gR
  hS : B ≤ gS
  h0 : B ≤ r0 ∧ B ≤ s0
  h1 : B ≤ r1 ∧ B ≤ s1
  cR2 : 2 ≤ cR
  cS2 : 2 ≤ cS

theorem two_of {rs : List Nat} (h : rs.length = 2) : ∃ a b, rs = [a, b] := by
  match rs, h with
  | [a, b], _ => exact ⟨a, b, rfl⟩

theorem row_of {B : Nat} {w : World} {E : TypeId} {v : Value} {a b : Nat} (h : w.ownsRow B E 1 v [a, b].length ([a, b].map ptr)) : ∃ g cap t, v = .slice (some ⟨g, 0, none⟩) 2 cap ∧ B ≤ g ∧ 2 ≤ cap ∧ Is w g E (ptr a :: ptr b :: t) := by
  rcases h.2 with ⟨_, h0⟩ | ⟨g, cap, cur, rfl, hB, hg, hn, hc, hs, ht⟩
  · simp at h0
  · have hI : Is w g E cur.toList := by unfold Is; simpa using hg
    refine ⟨g, cap, cur.toList.drop 2, rfl, hB, hn, ?_⟩
    have e := List.take_append_drop 2 cur.toList
    have e2 : cur.toList.take 2 = [ptr a, ptr b] := by simpa using ht
    rw [e2] at e
    rw [← e] at hI
    simpa using hI

theorem Making.rig {B M : Nat} {pv : Value} {w : World} {vR vS : Value} {rs ss : List Nat} (h : Making B M pv w vR vS rs ss) (hM : B ≤ M) (hr : rs.length = 2) (hs : ss.length = 2) :
    ∃ gR gS cR cS r0 r1 s0 s1, Rig B M gR gS cR cS pv r0 r1 s0 s1 w := by
  obtain ⟨r0, r1, rfl⟩ := two_of hr
  obtain ⟨s0, s1, rfl⟩ := two_of hs
  obtain ⟨gR, cR, tR, rfl, a1, a2, a3⟩ := row_of h.R.own
  obtain ⟨gS, cS, tS, rfl, b1, b2, b3⟩ := row_of h.S.own
  have e0 := h.R.is r0 (by simp)
  have e1 := h.R.is r1 (by simp)
  have f0 := h.S.is s0 (by simp)
  have f1 := h.S.is s1 (by simp)
  have n1 := h.R.nd
  have n2 := h.S.nd
  simp at n1 n2
  exact ⟨gR, gS, cR, cS, r0, r1, s0, s1, h.made, ⟨tR, a3⟩, ⟨tS, b3⟩, ⟨_, _, 0, e0.2, f0.2, fun _ => ⟨rfl, Nat.zero_le 72⟩⟩, ⟨_, _, 0, e1.2, f1.2, fun _ => ⟨rfl, Nat.zero_le 72⟩⟩, n1, n2, hM, a1, b1, ⟨e0.1, f0.1⟩, ⟨e1.1, f1.1⟩, a2, b2⟩

end Go.Proofs.YtbkpdapagfjmmaaGreatDoor

/-
  Plain mathematics of the document: an end, its tallies, and how great they grow. Imports nothing of the program.
-/
namespace Go.Proofs.YtbkpdapagfjmmaaGreatDoor.Lk

theorem back_own (e : En) (n : Nat) : (e.back n).own = e.own := by unfold En.back; split <;> rfl
theorem frame_ownLen (e : En) (f : Fr) : (e.frame f).2.2.own.length = e.own.length := by
  unfold En.frame
  split
  · unfold En.headF
    split
    · rfl
    · cases exR 100 f.d 6 e.inn 0 with
      | err a b => rfl
      | ok hs L => simp only; split <;> rfl
  · split
    · unfold En.pieceF
      cases (othIx e.oth f.st).bind fun i => (e.oth[i]?).map fun o => (i, o) with
      | none => rfl
      | some p =>
        simp only
        split
        · rfl
        · split
          · rfl
          · split
            · rfl
            · rw [back_own]
    · split
      · unfold En.resetF
        cases (ownIx e.own f.st).bind fun i => (e.own[i]?).map fun o => (i, o) with
        | some p => simp only; split <;> simp
        | none =>
          simp only
          cases (othIx e.oth f.st).bind fun i => (e.oth[i]?).map fun o => (i, o) with
          | none => rfl
          | some p =>
            simp only
            split
            · rw [back_own]
            · rfl
      · split
        · unfold En.creditF
          split
          · split <;> rfl
          · cases (ownIx e.own f.st).bind fun i => (e.own[i]?).map fun o => (i, o) with
            | none => rfl
            | some p =>
              simp only
              split
              · rfl
              · split <;> simp
        · split
          · rfl
          · split <;> rfl
theorem frames_ownLen : ∀ (l : List Fr) (e : En), (e.frames l).2.own.length = e.own.length ∧ (e.frames l).2.rest = e.rest
  | [], e => by simp [En.frames]
  | f :: l, e => by
    rw [En.frames]
    split
    · exact ⟨rfl, rfl⟩
    · obtain ⟨h1, h2⟩ := frames_ownLen l { (e.frame f).2.2 with down := (e.frame f).2.1 }
      have h3 : (e.frame f).2.2.rest = e.rest := by
        have hr := run_rest [f] e
        unfold En.run at hr
        first
          | simpa [En.run] using hr
          | (split at hr <;> simpa [En.run] using hr)
      exact ⟨h1.trans (frame_ownLen e f), h2.trans h3⟩
theorem falls_own (e : En) : e.falls.own = e.own := by unfold En.falls; split <;> rfl
theorem falls_down (e : En) : e.falls.down = e.down := by unfold En.falls; split <;> rfl
theorem falls_covers {e : En} {A : Int} {t : Nat → Int} (h : Covers e A t) : Covers e.falls A t := by
  unfold En.falls
  split
  · exact h.same rfl rfl rfl
  · exact h
theorem drain1_own {e e' : En} {s : Bs} (h : e.drain1 = some (s, e')) : e'.own.length = e.own.length ∧ e'.down = e.down := by
  unfold En.drain1 at h
  split at h
  · cases h
    exact ⟨rfl, rfl⟩
  · split at h
    · cases h
    · split at h
      · cases h
      · split at h
        · cases h
        · cases h
          exact ⟨by simp, rfl⟩
theorem drain_own : ∀ (n : Nat) (e : En), (En.drain n e).2.own.length = e.own.length ∧ (En.drain n e).2.down = e.down
  | 0, e => ⟨rfl, rfl⟩
  | n + 1, e => by
    rw [En.drain]
    cases hd : e.drain1 with
    | none => exact ⟨rfl, rfl⟩
    | some p =>
      obtain ⟨s, e'⟩ := p
      obtain ⟨h1, h2⟩ := drain1_own hd
      obtain ⟨h3, h4⟩ := drain_own n e'
      exact ⟨h3.trans h1, h4.trans h2⟩
theorem submitC_own (e : En) (l : List Hd) (body : Bs) : (e.submitC l body).2.own.length ≤ e.own.length + 1 ∧ (e.submitC l body).2.down = e.down ∧ (0 < (e.submitC l body).1.1 ∨ (e.submitC l body).1.2.1 ≠ 0) := by
  unfold En.submitC
  split
  · exact ⟨by simp, rfl, .inr (by simp)⟩
  · split
    · exact ⟨by simp, rfl, .inr (by simp)⟩
    · split
      · rename_i h
        exact ⟨by simp, rfl, .inr h⟩
      · split
        · exact ⟨by simp, rfl, .inr (by simp)⟩
        · split
          · exact ⟨by simp, rfl, .inr (by simp)⟩
          · exact ⟨by simp [En.send], rfl, .inl (by simp only; unfold En.nextId; omega)⟩

theorem gainAll_le (f : Fr) : gainAll f ≤ 268435456 := by
  unfold gainAll
  have := numOf_le f.d
  split <;> omega
theorem gainOwn_le (side : Nat) (f : Fr) (m : Nat) : gainOwn side f m ≤ 268435456 := by
  unfold gainOwn
  have := numOf_le f.d
  split <;> omega
theorem gainsAll_le (l : List Fr) : gainsAll l ≤ 268435456 * (l.length : Int) := by
  unfold gainsAll
  induction l with
  | nil => simp
  | cons f l ih =>
    have := gainAll_le f
    simp only [List.map_cons, List.sum_cons, List.length_cons]
    omega
theorem gainsOwn_le (side : Nat) (l : List Fr) (m : Nat) : gainsOwn side l m ≤ 268435456 * (l.length : Int) := by
  unfold gainsOwn
  induction l with
  | nil => simp
  | cons f l ih =>
    have := gainOwn_le side f m
    simp only [List.map_cons, List.sum_cons, List.length_cons]
    omega
theorem frames_le_bytes (l : List Fr) : l.length ≤ (packAll l).length := by
  rw [packAll_len]
  induction l with
  | nil => simp
  | cons f l ih =>
    have := pack_len f
    simp only [List.map_cons, List.sum_cons, List.length_cons]
    omega
theorem paid_nn (f : Fr) : 0 ≤ paid f := by unfold paid; split <;> omega
theorem paidOwn_nn (side : Nat) (f : Fr) (m : Nat) : 0 ≤ paidOwn side f m := by unfold paidOwn; split <;> omega
theorem paidAll_nn (l : List Fr) : 0 ≤ paidAll l := by
  unfold paidAll
  induction l with
  | nil => simp
  | cons f l ih =>
    have := paid_nn f
    simp only [List.map_cons, List.sum_cons]
    omega
theorem paidsOwn_nn (side : Nat) (l : List Fr) (m : Nat) : 0 ≤ paidsOwn side l m := by
  unfold paidsOwn
  induction l with
  | nil => simp
  | cons f l ih =>
    have := paidOwn_nn side f m
    simp only [List.map_cons, List.sum_cons]
    omega
theorem Pays.mono {side n n' : Nat} (hn : n ≤ n') : ∀ (l : List Fr) {A : Int} {t : Nat → Int}, Pays side n A t l → Pays side n' A t l
  | [], _, _, _ => trivial
  | f :: l, A, t, h => by
    refine ⟨fun hk => ?_, Pays.mono hn l h.2⟩
    obtain ⟨⟨m, h1, h2, h3⟩, h4⟩ := h.1 hk
    exact ⟨⟨m, by omega, h2, h3⟩, h4⟩

/-- An end that is up, and its tallies, n steps on, T bytes having come. -/
structure WM (e : En) (A : Int) (t : Nat → Int) (n T : Nat) : Prop where
  wf : Wf e
  cov : Covers e A t
  side : e.side = 0
  own : e.own.length ≤ n
  mass : e.mass + e.rest.length ≤ 2300 * n + T + e.oth.length
  ubA : A + 268435456 * (e.rest.length : Int) ≤ 400 + 268435456 * (T : Int)
  ubT : ∀ m, t m + 268435456 * (e.rest.length : Int) ≤ 400 + 268435456 * (T : Int)
  dn : e.down = 0
theorem Covers.nn {e : En} {A : Int} {t : Nat → Int} (h : Covers e A t) : 0 ≤ A ∧ ∀ m, 0 ≤ t m := by
  refine ⟨by have := h.all; omega, fun m => ?_⟩
  by_cases hm : m < e.own.length
  · have := h.own m e.own[m] (List.getElem?_eq_getElem hm)
    omega
  · have := h.new m (by omega)
    omega

section
variable {e : En} {A : Int} {t : Nat → Int} {n T : Nat}
theorem WM.start (win : Nat) (h1 : 1 ≤ win) (h2 : win ≤ 200) : WM (En.new 0 win) (2 * win) (fun _ => win) 0 0 := by
  refine ⟨Wf.new (by omega) h1 h2, ⟨by simp [En.new], fun m o h => by simp [En.new] at h, fun m _ => by simp [En.new]⟩, rfl, by simp [En.new], by rw [new_mass]; simp [En.new], ?_, ?_, rfl⟩
  · simp [En.new]
    omega
  · intro m
    simp [En.new]
    omega
theorem WM.later (h : WM e A t n T) {n' T' : Nat} (hn : n ≤ n') (hT : T ≤ T') : WM e A t n' T' :=
  ⟨h.wf, h.cov, h.side, by have := h.own; omega, by have := h.mass; omega, by have := h.ubA; omega, fun m => by have := h.ubT m; omega, h.dn⟩
theorem WM.submit (h : WM e A t n T) (l : List Hd) (body : Bs) : WM (e.submitC l body).2 A t (n + 1) T := by
  obtain ⟨s1, s2, s3⟩ := submitC_side e l body
  obtain ⟨o1, o2, _⟩ := submitC_own e l body
  have hm := submitC_mass e l body
  refine ⟨h.wf.submitC l body, submit_covers h.cov l body, s1.trans h.side, by have := h.own; omega, ?_, by rw [s3]; exact h.ubA, fun m => by rw [s3]; exact h.ubT m, o2.trans h.dn⟩
  have := h.mass
  rw [s2, s3]
  omega
theorem WM.drain (h : WM e A t n T) (q : Nat) : ∃ fs : List Fr, (En.drain q e).1 = packAll fs ∧ (∀ f ∈ fs, Good f.k f.st f.d) ∧ Pays 0 n A t fs ∧ WM (En.drain q e).2 (A - paidAll fs) (fun m => t m - paidsOwn 0 fs m) (n + 1) T := by
  obtain ⟨fs, h1, h2, h3, h4⟩ := drain_covers q h.wf h.cov
  obtain ⟨s1, s2, s3⟩ := drain_side q e
  obtain ⟨o1, o2⟩ := drain_own q e
  have hm := drain_mass q h.wf
  rw [h.side] at h3 h4
  refine ⟨fs, h1, h2, h3.mono h.own, (h.wf.drain q).1, h4, s1.trans h.side, by have := h.own; omega, ?_, ?_, fun m => ?_, o2.trans h.dn⟩
  · have := h.mass
    rw [s2, s3]
    omega
  · have := h.ubA
    have := paidAll_nn fs
    rw [s3]
    omega
  · have := h.ubT m
    have := paidsOwn_nn 0 fs m
    rw [s3]
    omega
/-- What comes: the tallies grow by it; either the end stays up, or what it then sends keeps within the tallies. -/
theorem WM.feed (h : WM e A t n T) (b : Bs) (X : List Fr × Nat × Bs) (hX : Lk.all (e.rest ++ b) = X) :
    (∀ f ∈ X.1, Good f.k f.st f.d) ∧ (X.1.length : Int) + X.2.2.length ≤ e.rest.length + b.length
    ∧ ((e.feed b).2.down = 0 → X.2.1 = 0 ∧ (e.feed b).2.rest = X.2.2 ∧ WM (e.feed b).2 (A + gainsAll X.1) (fun m => t m + gainsOwn 0 X.1 m) (n + 1) (T + b.length))
    ∧ (∀ q, ∃ fs : List Fr, (En.drain q (e.feed b).2).1 = packAll fs ∧ (∀ f ∈ fs, Good f.k f.st f.d) ∧ Pays 0 n (A + gainsAll X.1) (fun m => t m + gainsOwn 0 X.1 m) fs) := by
  have hg : ∀ f ∈ X.1, Good f.k f.st f.d := by rw [← hX]; exact (all_packs _).1
  have hl : X.1.length + X.2.2.length ≤ e.rest.length + b.length := by
    have h1 := all_rest_len (e.rest ++ b)
    rw [hX, List.length_append] at h1
    have := frames_le_bytes X.1
    omega
  have hf := e.feed_eq b h.dn X hX
  have hw2 := h.wf.feed b
  have hm := feed_mass2 h.wf b
  have hs := feed_side e b
  have c1 := frames_covers X.1 h.wf hg h.cov
  rw [h.side] at c1
  obtain ⟨o1, o2⟩ := frames_ownLen X.1 e
  have hcov : Covers (e.feed b).2 (A + gainsAll X.1) (fun m => t m + gainsOwn 0 X.1 m) := by
    rw [hf]
    apply falls_covers
    split <;> exact c1.same rfl rfl rfl
  have hown : (e.feed b).2.own.length = e.own.length := by
    rw [hf]
    simp only
    rw [falls_own]
    split <;> exact o1
  refine ⟨hg, by omega, fun hd => ?_, fun q => ?_⟩
  · have hx : X.2.1 = 0 ∧ (e.feed b).2.rest = X.2.2 := by
      rw [hf] at hd ⊢
      simp only at hd ⊢
      rw [falls_down] at hd
      rw [falls_rest]
      by_cases hc : (e.frames X.1).2.down = 0
      · rw [if_pos hc] at hd ⊢
        exact ⟨hd, rfl⟩
      · rw [if_neg hc] at hd
        exact absurd hd hc
    refine ⟨hx.1, hx.2, hw2, hcov, hs.2.trans h.side, by rw [hown]; have := h.own; omega, ?_, ?_, fun m => ?_, hd⟩
    · have := h.mass
      omega
    · have h1 := h.ubA
      have h2 := gainsAll_le X.1
      rw [hx.2]
      omega
    · have h1 := h.ubT m
      have h2 := gainsOwn_le 0 X.1 m
      rw [hx.2]
      show t m + gainsOwn 0 X.1 m + _ ≤ _
      omega
  · obtain ⟨fs, h1, h2, h3, _⟩ := drain_covers q hw2 hcov
    rw [hs.2, h.side, hown] at h3
    exact ⟨fs, h1, h2, h3.mono h.own⟩
end
end Go.Proofs.YtbkpdapagfjmmaaGreatDoor.Lk
