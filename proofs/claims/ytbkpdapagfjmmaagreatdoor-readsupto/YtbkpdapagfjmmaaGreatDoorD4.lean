/-
  Walks: what a script has made: two readers of each side.
-/
import Derived.Test.YtbkpdapagfjmmaaGreatDoorD3
namespace Go.Proofs.YtbkpdapagfjmmaaGreatDoor
open Go.RowKit

theorem info_pr : (Tryz.prog.info? 133).map (fun i => (i.zero, i.size, i.bytes)) = some (some (.pointer none), 1, 8) := by kernel_rfl
theorem info_ps : (Tryz.prog.info? 52).map (fun i => (i.zero, i.size, i.bytes)) = some (some (.pointer none), 1, 8) := by kernel_rfl

/-- A row of pointers to readers, all new; each is as at its start. -/
structure Readers (B : Nat) (w : World) (E T : TypeId) (cs : List Value) (v : Value) (rs : List Nat) : Prop where
  own : w.ownsRow B E 1 v rs.length (rs.map ptr)
  nd : rs.Nodup
  is : ∀ r ∈ rs, B ≤ r ∧ Is w r T cs

theorem Readers.nil (B : Nat) (w : World) (E T : TypeId) (cs : List Value) : Readers B w E T cs nilS [] := ⟨World.ownsRow_nil _ _ _ _, List.nodup_nil, by simp⟩

theorem Readers.grown {B : Nat} {w w' : World} {E T : TypeId} {cs : List Value} {v : Value} {rs : List Nat} (h : Readers B w E T cs v rs) {row : Option Nat} (hg : w.grownBy w' row)
    (h1 : v.ownBlock = none ∨ v.ownBlock ≠ row) (h2 : ∀ r ∈ rs, some r ≠ row) : Readers B w' E T cs v rs :=
  ⟨h.own.kept hg h1, h.nd, fun r hr => ⟨(h.is r hr).1, (h.is r hr).2.grown hg (h2 r hr)⟩⟩

theorem Readers.below {B : Nat} {w w' : World} {E T : TypeId} {cs : List Value} {v : Value} {rs : List Nat} (h : Readers B w E T cs v rs) (hb : Below w.heap.size w w') : Readers B w' E T cs v rs :=
  h.grown (row := none) ⟨hb.os, hb.tape, hb.output, hb.size, fun i hi _ => hb.block i hi⟩ (by cases v.ownBlock <;> simp) (by simp)

theorem Readers.push {B : Nat} {w w2 : World} {E T : TypeId} {cs : List Value} {v v2 : Value} {rs : List Nat} (h : Readers B w E T cs v rs) (hT : T ≠ E) (o : Obj)
    (hg : ((w.alloc (.cells cs.toArray T)).alloc o).grownBy w2 v.ownBlock) (hown : w2.ownsRow B E 1 v2 (rs.length + 1) (rs.map ptr ++ [ptr w.heap.size])) (hB : B ≤ w.heap.size) : Readers B w2 E T cs v2 (rs ++ [w.heap.size]) := by
  refine ⟨by simpa using hown, ?_, ?_⟩
  · rw [List.nodup_append]
    refine ⟨h.nd, by simp, ?_⟩
    intro r hr s hs
    simp at hs
    have := (h.is r hr).2.lt
    omega
  · intro r hr
    rw [List.mem_append] at hr
    rcases hr with hr | hr
    · exact ⟨(h.is r hr).1, (((h.is r hr).2.alloc _).alloc _).grown hg (own_ne h.own (h.is r hr).2 hT)⟩
    · simp at hr
      subst hr
      refine ⟨hB, ((Is.new w T cs).alloc _).grown hg ?_⟩
      intro e
      have := (h.own.lt _ e.symm).2
      omega

theorem Readers.alloc {B : Nat} {w : World} {E T : TypeId} {cs : List Value} {v : Value} {rs : List Nat} (h : Readers B w E T cs v rs) (o : Obj) : Readers B (w.alloc o) E T cs v rs :=
  h.below ((Below.refl _ _).alloc (Nat.le_refl _) o)

theorem Readers.setAt {B : Nat} {w : World} {E T T' : TypeId} {cs cs' : List Value} {v : Value} {rs : List Nat} {M : Nat} (h : Readers B w E T cs v rs) (hM : Is w M T' cs') (h1 : T' ≠ E) (h2 : T' ≠ T) (i : Nat) (x : Value) : Readers B (w.setCell ⟨M, i, none⟩ x) E T cs v rs := by
  refine h.grown (grownBy_set w M i x) ?_ ?_
  · right
    exact fun e => own_ne h.own hM h1 e.symm
  · intro r hr e
    have e' : r = M := by simpa using e
    exact (h.is r hr).2.ne hM (fun e => h2 e.symm) e'

/-- While two readers of each side are made. -/
structure Making (B M : Nat) (pv : Value) (w : World) (vR vS : Value) (rs ss : List Nat) : Prop where
  made : Is w M 132 [vR, vS, nilS, nilS, nilS, nilS, pv]
  R : Readers B w 133 85 [.string ⟨#[]⟩, .int .i64 0, .int .i64 0] vR rs
  S : Readers B w 52 54 [.string ⟨#[]⟩, .int .i64 0] vS ss

set_option maxHeartbeats 1000000 in
set_option maxRecDepth 100000 in
theorem made_any (w : World) :
    Calls Tryz.prog 26 #[.int .i64 0, .int .i64 1, .int .i64 3] w fun e w' =>
      e = .returned (.tuple #[ptr (w.heap.size + 1), .bool true]) ∧ (∃ vR vS rs ss, rs.length = 2 ∧ ss.length = 2 ∧ Making w.heap.size (w.heap.size + 1) (.slice (some ⟨w.heap.size, 0, none⟩) 2 2) w' vR vS rs ss) ∧ Below w.heap.size w w' := by
  obtain ⟨i, hi, hz0, hz1, hz2⟩ := info_parts info_pr
  obtain ⟨j, hj, hy0, hy1, hy2⟩ := info_parts info_ps
  go_enter Tryz.func26, Tryz.ntmps26
  go_wp2_with fail
  go_loopw [9] (fun k wr => ∃ (n : Nat) (vR vS : Value) (rs ss : List Nat), n ≤ 2 ∧ k = .int .i64 n ∧ rs.length = n ∧ ss.length = n ∧ Making w.heap.size (w.heap.size + 1) (.slice (some ⟨w.heap.size, 0, none⟩) 2 2) wr vR vS rs ss ∧ Below w.heap.size w wr) (fun k _ => 2 - (intOf k).toNat)
  case atStart =>
    refine ⟨0, _, _, [], [], by omega, rfl, rfl, rfl, ⟨?_, Readers.nil _ _ _ _ _, Readers.nil _ _ _ _ _⟩, by ((repeat' (first | exact Below.refl _ _ | assumption | apply Below.drew | apply Below.alloc | apply Below.setCell)) <;> (simp <;> omega))⟩
    have := Is.new (w.alloc (.cells #[.string ⟨#[]⟩, .string ⟨#[]⟩] 9)) 132 [nilS, nilS, nilS, nilS, nilS, nilS, .slice (some ⟨w.heap.size, 0, none⟩) 2 2]
    simpa using this
  case round =>
    obtain ⟨n, vR, vS, rs, ss, hn, rfl, rfl, hss, hM, hbel⟩ := hrel
    have HSS := hide hss
    clear hss
    by_cases hlt : rs.length < 2
    · have hlt' : (rs.length : Int) < 2 := by omega
      have hls : ss.length < 2 := by have := unhide HSS; omega
      have m0 := hM.made.cell 0
      simp only [List.getElem?_cons_zero] at m0
      have hMl := hM.made.lt
      have hMl2 : w.heap.size < wr.heap.size := by omega
      go_wp2_with fail
      go_cut [] (fun wc => ∃ v2, Making w.heap.size (w.heap.size + 1) (.slice (some ⟨w.heap.size, 0, none⟩) 2 2) wc v2 vS (rs ++ [wr.heap.size]) ss ∧ Below w.heap.size w wc)
      case first =>
        go_region_law (first
          | (refine step_append_lies _ rfl _ _ 125 rfl w.heap.size 133 i (.pointer none) 1 8 Tryz.underlying125 hi hz0 hz1 hz2 rfl (Nat.succ_pos 0) vR rs.length (rs.map ptr) rfl ((hM.R.own.alloc _).alloc _) ⟨wr.heap.size + 1, 0, none⟩ 1 1 [ptr wr.heap.size] rfl rfl ?_ ?_ ?_ ?_ ?_ ?_ (wr.heap.size + 1 + 1) ?_ ?_
             (refine one_new_at _ _ _ _ ?_; simp)
             simp [Value.oneCell', ptr]
             omega
             (unfold maxLen; omega)
             omega
             (have := hbel.size; simp <;> omega)
             simp
             intro g1 cap1 w1 ho1 hg1 hor1 hlt1
             have hM1 := (((hM.made.alloc (.cells #[.string ⟨#[]⟩, .int .i64 0, .int .i64 0] 85)).alloc (.cells #[ptr wr.heap.size] 133)).drew).grown hg1 (own_ne hM.R.own hM.made (Nat.ne_of_beq_eq_false rfl))
             have k0 := hM1.cell 0
             have k0f := hM1.free 0
             simp only [List.getElem?_cons_zero] at k0)
          | (go_simp; go_at_call 51; refine (newReader_any _).mono ?_; rintro e w' ⟨rfl, rfl⟩))
        all_goals
          go_wp2_with fail
          go_meet
          have hg := undrew hg1
          have hb2 : Below w.heap.size w w1 := ((hbel.alloc hbel.size _).alloc (by have := hbel.size; simp; omega) _).grown hg (by have := hbel.size; simp; omega) (fun k hk => (hM.R.own.lt k hk).1)
          have hR := hM.R.push (Nat.ne_of_beq_eq_false rfl) _ hg ho1 hbel.size
          have hS := ((hM.S.alloc _).alloc _).grown hg (own_own_ne hM.S.own hM.R.own (Nat.ne_of_beq_eq_false rfl)) (fun s hs => own_ne hM.R.own (hM.S.is s hs).2 (Nat.ne_of_beq_eq_false rfl))
          exact ⟨_, ⟨hM1.set 0 _, hR.setAt hM1 (Nat.ne_of_beq_eq_false rfl) (Nat.ne_of_beq_eq_false rfl) 0 _, hS.setAt hM1 (Nat.ne_of_beq_eq_false rfl) (Nat.ne_of_beq_eq_false rfl) 0 _⟩, hb2.setCell (by simp) _⟩
      case rest =>
        obtain ⟨v2, hM2, hb2⟩ := hcut
        clear hM hbel m0 hMl hMl2
        have m1 := hM2.made.cell 1
        simp only [List.getElem?_cons_zero, List.getElem?_cons_succ] at m1
        have hMl := hM2.made.lt
        have hMl2 : w.heap.size < wc.heap.size := by omega
        go_wp2_with (at_builtin; refine wpList_append_own _ rfl _ _ 126 rfl w.heap.size 52 j (.pointer none) 1 8 Tryz.underlying126 hj hy0 hy1 hy2 rfl (by decide) vS ss.length (ss.map ptr) rfl ((hM2.S.own.alloc _).alloc _) ⟨wc.heap.size + 1, 0, none⟩ 1 1 [ptr wc.heap.size] rfl rfl ?hnews ?h1 ?h63 ?hby ?hba ?_)
        case hnews =>
          have e := cell_one_new (wc.alloc (.cells #[.string ⟨#[]⟩, .int .i64 0] 54)) (ptr wc.heap.size) 52
          rw [World.size_alloc] at e
          exact e
        case h1 => simp [Value.oneCell', ptr]
        case h63 => unfold maxLen; omega
        case hby => omega
        case hba => have := hb2.size; simp; omega
        intro v3 w3 ho3 hg3 _
        have hM3 := ((hM2.made.alloc (.cells #[.string ⟨#[]⟩, .int .i64 0] 54)).alloc (.cells #[ptr wc.heap.size] 52)).grown hg3 (own_ne hM2.S.own hM2.made (Nat.ne_of_beq_eq_false rfl))
        have hS3 := hM2.S.push (Nat.ne_of_beq_eq_false rfl) _ hg3 ho3 hb2.size
        have hR3 := ((hM2.R.alloc _).alloc _).grown hg3 (own_own_ne hM2.R.own hM2.S.own (Nat.ne_of_beq_eq_false rfl)) (fun s hs => own_ne hM2.S.own (hM2.R.is s hs).2 (Nat.ne_of_beq_eq_false rfl))
        have hb3 : Below w.heap.size w w3 := ((hb2.alloc hb2.size _).alloc (by have := hb2.size; simp; omega) _).grown hg3 (by have := hb2.size; simp; omega) (fun k hk => (hM2.S.own.lt k hk).1)
        clear hM2 hb2 m1 hMl hMl2 hg3 ho3
        obtain ⟨gS, capS, rfl⟩ : ∃ gS capS, v3 = .slice (some ⟨gS, 0, none⟩) (ss.length + 1) capS := by
          rcases hS3.own.2 with ⟨_, h0⟩ | ⟨g, cap, cur, h, _⟩
          · simp at h0
          · exact ⟨g, cap, by simpa using h⟩
        have q0 := hM3.cell 0
        have q1 := hM3.cell 1
        have q1f := hM3.free 1
        simp only [List.getElem?_cons_zero, List.getElem?_cons_succ] at q0 q1
        rcases hR3.own.2 with ⟨_, h0⟩ | ⟨g, cap, cur, rfl, hgB, hgg, hgn, hcm, hcs, htk⟩
        · simp at h0
        have hG : Is w3 g 133 cur.toList := by unfold Is; simpa using hgg
        have hgM := hG.ne hM3 (Nat.ne_of_beq_eq_false rfl)
        have hgc : w3.cell? ⟨g, rs.length, none⟩ = some (ptr wr.heap.size) := by
          rw [hG.cell]
          have e := congrArg (fun l => l[rs.length]?) htk
          simp only [List.length_append, List.length_cons, List.length_nil, Nat.mul_one] at e
          rw [List.getElem?_take_of_lt (by omega)] at e
          rw [e]
          simp
        have hgM1 : ¬ w.heap.size + 1 = g := fun e => hgM e.symm
        have hgM2 : ¬ g = w.heap.size + 1 := hgM
        unfold ptr at hgc
        simp only [List.length_append, List.length_cons, List.length_nil] at q0 hgn
        clear hG hgM hgg htk hcs
        go_wp2_with fail
        go_roundw
        case rel =>
          refine ⟨rs.length + 1, _, _, rs ++ [wr.heap.size], ss ++ [wc.heap.size], by omega, by go_num, by simp, by have := unhide HSS; simp; omega, ⟨hM3.set 1 _, hR3.setAt hM3 (Nat.ne_of_beq_eq_false rfl) (Nat.ne_of_beq_eq_false rfl) 1 _, hS3.setAt hM3 (Nat.ne_of_beq_eq_false rfl) (Nat.ne_of_beq_eq_false rfl) 1 _⟩, hb3.setCell (by simp) _⟩
        case measure => simp [intOf]; omega
    · have hlt' : ¬ (rs.length : Int) < 2 := by omega
      go_wp2_with fail
      go_ret2
      exact ⟨rfl, ⟨vR, vS, rs, by omega, ss, by have := unhide HSS; omega, hM⟩, hbel⟩

end Go.Proofs.YtbkpdapagfjmmaaGreatDoor
