import Derived.Test.YtbkpdapagfjmmaaGreatDoorMSpec7N2
import Derived.Test.YtbkpdapagfjmmaaGreatDoorMFEFJ
import Derived.Laws.EntriesVeiled
import Derived.Test.YtbkpdapagfjmmaaGreatDoorMU2PW
import Derived.Test.YtbkpdapagfjmmaaGreatDoorProg
import Derived.Test.YtbkpdapagfjmmaaGreatDoorMSpecSpec3
import Derived.Test.YtbkpdapagfjmmaaGreatDoorMSpec5Z1
/-
  Plain mathematics of the document: frames that are worked off while a fault is known already. Imports nothing of the program.
-/
namespace Go.Proofs.YtbkpdapagfjmmaaGreatDoor.Lk

def En.dn (e : En) (r : Nat) : En := { e with down := r }

def Dn3 (x : List Ev × Nat × En) (r : Nat) : List Ev × Nat × En := (x.1, x.2.1, x.2.2.dn r)
theorem En.back_dn (e : En) (n : Nat) (r : Nat) : (e.dn r).back n = (e.back n).dn r := by
  unfold En.back
  split <;> rfl
theorem En.bye_dn (e : En) (r : Nat) : (e.dn r).bye = e.bye.dn r := rfl
theorem En.headF_dn (e : En) (f : Fr) (r : Nat) : (e.dn r).headF f = Dn3 (e.headF f) r := by
  unfold En.headF
  show (if f.st ≠ 2 * e.oth.length + 2 - e.side then ([], 4, e.dn r) else _) = _
  by_cases h : f.st ≠ 2 * e.oth.length + 2 - e.side
  · rw [if_pos h, if_pos h]; rfl
  · rw [if_neg h, if_neg h]
    show (match exR 100 f.d 6 e.inn 0 with | .err _ _ => _ | .ok hs L => _) = _
    cases exR 100 f.d 6 e.inn 0 with
    | err a b => rfl
    | ok hs L =>
      show (if e.byeS = true then _ else _) = Dn3 (if e.byeS = true then _ else _) r
      by_cases hb : e.byeS = true
      · rw [if_pos hb, if_pos hb]; rfl
      · rw [if_neg hb, if_neg hb]; rfl
theorem En.pieceF_dn (e : En) (f : Fr) (r : Nat) : (e.dn r).pieceF f = Dn3 (e.pieceF f) r := by
  unfold En.pieceF
  show (match (othIx e.oth f.st).bind fun i => (e.oth[i]?).map fun o => (i, o) with | none => _ | some (i, o) => _) = Dn3 (match (othIx e.oth f.st).bind fun i => (e.oth[i]?).map fun o => (i, o) with | none => _ | some (i, o) => _) r
  cases (othIx e.oth f.st).bind fun i => (e.oth[i]?).map fun o => (i, o) with
  | none => rfl
  | some p =>
    obtain ⟨i, o⟩ := p
    show (if (!o.opn && !o.drp) = true then _ else if o.cr < f.d.length ∨ e.room < f.d.length then _ else if o.opn = true then _ else _) = Dn3 (if (!o.opn && !o.drp) = true then _ else if o.cr < f.d.length ∨ e.room < f.d.length then _ else if o.opn = true then _ else _) r
    split
    · rfl
    · split
      · rfl
      · split
        · rfl
        · unfold Dn3
          simp only
          rw [← En.back_dn]
          rfl
theorem En.resetF_dn (e : En) (f : Fr) (r : Nat) : (e.dn r).resetF f = Dn3 (e.resetF f) r := by
  unfold En.resetF
  show (match (ownIx e.own f.st).bind fun i => (e.own[i]?).map fun o => (i, o) with | some (i, o) => _ | none => match (othIx e.oth f.st).bind fun i => (e.oth[i]?).map fun o => (i, o) with | none => _ | some (i, o) => _) = Dn3 (match (ownIx e.own f.st).bind fun i => (e.own[i]?).map fun o => (i, o) with | some (i, o) => _ | none => match (othIx e.oth f.st).bind fun i => (e.oth[i]?).map fun o => (i, o) with | none => _ | some (i, o) => _) r
  cases (ownIx e.own f.st).bind fun i => (e.own[i]?).map fun o => (i, o) with
  | some p =>
    obtain ⟨i, o⟩ := p
    show (if o.done = true then _ else _) = Dn3 (if o.done = true then _ else _) r
    split <;> rfl
  | none =>
    cases (othIx e.oth f.st).bind fun i => (e.oth[i]?).map fun o => (i, o) with
    | none => rfl
    | some p =>
      obtain ⟨i, o⟩ := p
      show (if o.opn = true then _ else _) = Dn3 (if o.opn = true then _ else _) r
      split
      · unfold Dn3
        simp only
        rw [← En.back_dn]
        rfl
      · rfl
theorem En.creditF_dn (e : En) (f : Fr) (r : Nat) : (e.dn r).creditF f = ((e.creditF f).1, (e.creditF f).2.dn r) := by
  unfold En.creditF
  split
  · show (if numOf f.d = 0 ∨ 100000 < e.all + numOf f.d then _ else _) = ((if numOf f.d = 0 ∨ 100000 < e.all + numOf f.d then _ else _ : Nat × En).1, (if numOf f.d = 0 ∨ 100000 < e.all + numOf f.d then _ else _ : Nat × En).2.dn r)
    split <;> rfl
  · show (match (ownIx e.own f.st).bind fun i => (e.own[i]?).map fun o => (i, o) with | none => _ | some (i, o) => _) = _
    cases (ownIx e.own f.st).bind fun i => (e.own[i]?).map fun o => (i, o) with
    | none => rfl
    | some p =>
      obtain ⟨i, o⟩ := p
      simp only
      split
      · rfl
      · split <;> rfl
theorem En.frame_dn (e : En) (f : Fr) (r : Nat) : (e.dn r).frame f = Dn3 (e.frame f) r := by
  unfold En.frame
  split
  · exact e.headF_dn f r
  · split
    · exact e.pieceF_dn f r
    · split
      · exact e.resetF_dn f r
      · split
        · rw [e.creditF_dn f r]; rfl
        · split
          · rfl
          · split <;> rfl
/-- Frames, one behind the other, till one is wrong: what is told, the error, what is left. -/
def En.run : En → List Fr → List Ev × Nat × En
  | e, [] => ([], 0, e)
  | e, f :: l => if (e.frame f).2.1 ≠ 0 then e.frame f else ((e.frame f).1 ++ (En.run (e.frame f).2.2 l).1, (En.run (e.frame f).2.2 l).2)
theorem En.run_dn : ∀ (l : List Fr) (e : En) (r : Nat), (e.dn r).run l = Dn3 (e.run l) r
  | [], e, r => rfl
  | f :: l, e, r => by
    rw [En.run, En.run, e.frame_dn f r]
    show (if (e.frame f).2.1 ≠ 0 then Dn3 (e.frame f) r else _) = _
    by_cases h : (e.frame f).2.1 ≠ 0
    · rw [if_pos h, if_pos h]
    · rw [if_neg h, if_neg h]
      show ((e.frame f).1 ++ (En.run ((e.frame f).2.2.dn r) l).1, (En.run ((e.frame f).2.2.dn r) l).2) = _
      rw [En.run_dn l (e.frame f).2.2 r]
      rfl
theorem En.dn_self (e : En) : e.dn e.down = e := rfl
theorem En.frame_down (e : En) (f : Fr) : (e.frame f).2.2.down = e.down := by
  have := e.frame_dn f e.down
  rw [En.dn_self] at this
  have h2 : (e.frame f).2.2 = (e.frame f).2.2.dn e.down := by
    have h3 := congrArg (fun x => x.2.2) this
    exact h3
  rw [h2]
  rfl
theorem En.run_down : ∀ (l : List Fr) (e : En), (e.run l).2.2.down = e.down
  | [], e => rfl
  | f :: l, e => by
    rw [En.run]
    split
    · exact e.frame_down f
    · rw [En.run_down l]; exact e.frame_down f
/-- The document's own order: the error is set at once. -/
theorem En.frames_run : ∀ (l : List Fr) (e : En), e.down = 0 → e.frames l = ((e.run l).1, (e.run l).2.2.dn (e.run l).2.1)
  | [], e, h => by
    show ([], e) = ([], e.dn 0)
    rw [← h]
    rfl
  | f :: l, e, h => by
    rw [En.frames, En.run, if_neg (by rw [h]; simp)]
    by_cases h2 : (e.frame f).2.1 ≠ 0
    · rw [if_pos h2, En.frames_down _ _ (by exact h2)]
      simp only [List.append_nil]
      rfl
    · rw [if_neg h2]
      have h3 : (e.frame f).2.1 = 0 := by omega
      have h4 : ({ (e.frame f).2.2 with down := (e.frame f).2.1 } : En) = (e.frame f).2.2 := by
        rw [h3, ← h, ← e.frame_down f]
      rw [h4, En.frames_run l _ ((e.frame_down f).trans h)]
/-- What Feed leaves: by way of a fault that is known ahead. -/
theorem En.feed_run (e : En) (b : Bs) (hd : e.down = 0) (B : List Fr × Nat × Bs) (hB : Lk.all (e.rest ++ b) = B) (R : List Ev × Nat × En) (hR : ((e.at B.2.2).dn B.2.1).run B.1 = R) :
    e.feed b = (R.1, (R.2.2.dn (if R.2.1 = 0 then B.2.1 else R.2.1)).falls) := by
  rw [e.feed_eq b hd B hB, En.frames_run _ _ hd]
  rw [En.run_dn] at hR
  have h1 : (e.at B.2.2).run B.1 = ((e.run B.1).1, (e.run B.1).2.1, (e.run B.1).2.2.at B.2.2) := by
    have : ∀ (l : List Fr) (e : En) (r : Bs), (e.at r).run l = At3 (e.run l) r := by
      intro l
      induction l with
      | nil => intro e r; rfl
      | cons f l ih =>
        intro e r
        rw [En.run, En.run, e.frame_at f r]
        show (if (e.frame f).2.1 ≠ 0 then At3 (e.frame f) r else _) = _
        by_cases h : (e.frame f).2.1 ≠ 0
        · rw [if_pos h, if_pos h]
        · rw [if_neg h, if_neg h]
          show ((e.frame f).1 ++ (En.run ((e.frame f).2.2.at r) l).1, (En.run ((e.frame f).2.2.at r) l).2) = _
          rw [ih (e.frame f).2.2 r]
          rfl
    exact this _ _ _
  rw [h1] at hR
  subst hR
  show ((e.run B.1).1, _) = ((e.run B.1).1, _)
  refine congrArg (Prod.mk _) (congrArg En.falls ?_)
  show (if (e.run B.1).2.1 = 0 then _ else _) = (((e.run B.1).2.2.at B.2.2).dn (if (e.run B.1).2.1 = 0 then B.2.1 else (e.run B.1).2.1))
  by_cases h : (e.run B.1).2.1 = 0
  · rw [if_pos h, if_pos h]; rfl
  · rw [if_neg h, if_neg h]; rfl
theorem Wf.run : ∀ (l : List Fr) {e : En}, Wf e → (∀ f ∈ l, Good f.k f.st f.d) → Wf (e.run l).2.2
  | [], e, h, _ => h
  | f :: l, e, h, hl => by
    rw [En.run]
    split
    · exact h.frame (hl f (by simp))
    · exact Wf.run l (h.frame (hl f (by simp))) (fun g hg => hl g (by simp [hg]))
/-- A frame tells two events at most. -/
theorem En.frame_two (e : En) (f : Fr) : (e.frame f).1.length ≤ 2 := by
  unfold En.frame
  split
  · unfold En.headF
    split
    · simp
    · split
      · simp
      · split <;> simp
  · split
    · unfold En.pieceF
      split
      · simp
      · split
        · simp
        · split
          · simp
          · split
            · rw [List.length_append]
              have h1 : (if 0 < f.d.length then [(⟨2, f.st, 0, [], f.d⟩ : Ev)] else []).length ≤ 1 := by split <;> simp
              have h2 : (if f.k = 2 then [(⟨3, f.st, 0, [], []⟩ : Ev)] else []).length ≤ 1 := by split <;> simp
              omega
            · simp
    · split
      · unfold En.resetF
        split
        · split <;> simp
        · split
          · simp
          · split <;> simp
      · split
        · simp
        · split
          · simp
          · split <;> simp
end Go.Proofs.YtbkpdapagfjmmaaGreatDoor.Lk

/-
  Walks: an end comes down.
-/
namespace Go.Proofs.YtbkpdapagfjmmaaGreatDoor
open Go.RowKit

def downC (flt : Int) (rs : List Nat) : EC := ⟨⟨#[]⟩, flt, .nilFunc, 0, nilS, 0, 0, 0, 0, nilS, .nilFunc, 0, nilS, 0, 0, 0, .map none, rs, false, false⟩
theorem setRow_is {w : World} {b : Nat} {T : TypeId} {cs : List Value} (h : Is w b T cs) (ds : Array Value) : Is (w.setRow b ds) b T ds.toList := by
  unfold Is at h ⊢
  have := setRow_heap w b _ ds T (0, 0) h
  simpa using this
theorem setRow_only (w : World) (b : Nat) (ds : Array Value) : Only (fun i => i = b) w (w.setRow b ds) := by
  refine ⟨rfl, rfl, rfl, by simp [World.setRow], fun i _ hn => ?_⟩
  simp only [World.setRow]
  rw [Array.getElem?_modify]
  rw [if_neg (fun e => hn e.symm)]
theorem info_end : (Tryz.prog.info? 101).map (fun i => i.size) = some 22 := by kernel_rfl
theorem firstV_ptr (rs : List Nat) : ∃ p, firstV rs = .pointer p := by unfold firstV optPtr; cases rs.head? <;> exact ⟨_, rfl⟩
theorem lastV_ptr (rs : List Nat) : ∃ p, lastV rs = .pointer p := by unfold lastV optPtr; cases rs.getLast? <;> exact ⟨_, rfl⟩
set_option maxHeartbeats 2000000 in
set_option maxRecDepth 100000 in
theorem fall_said (b flt : Nat) (c : EC) (fs : List Lk.Fr) (w : World) (hR : Rw w b c fs) (hby : c.bs = true) :
    Calls Tryz.prog 50 #[.pointer (some ⟨b, 0, none⟩), .int .i64 (flt : Int)] w fun r w' => r = .returned (.tuple #[]) ∧ Rw w' b (downC flt c.rs) fs ∧ Only (fun i => i = b) w w' := by
  have hbl := hR.lt
  have c18 : w.cell? ⟨b, 18, none⟩ = some (firstV c.rs) := hR.blk.cell 18
  have c19 : w.cell? ⟨b, 19, none⟩ = some (lastV c.rs) := hR.blk.cell 19
  have c20 : w.cell? ⟨b, 20, none⟩ = some (.bool true) := by have := hR.blk.cell 20; rw [← hby]; exact this
  obtain ⟨fp, hfp⟩ := firstV_ptr c.rs
  obtain ⟨lp, hlp⟩ := lastV_ptr c.rs
  rw [hfp] at c18
  rw [hlp] at c19
  have HSI := hide (setRow_is hR.blk #[.string ⟨#[]⟩, .int .i64 0, .int .i64 (flt : Int), .nilFunc, .int .i64 0, .slice none 0 0, .int .i64 0, .int .i64 0, .int .i64 0, .int .i64 0, .slice none 0 0, .nilFunc, .int .i64 0, .slice none 0 0, .int .i64 0, .int .i64 0, .int .i64 0, .map none, .pointer fp, .pointer lp, .bool false, .bool false])
  have HSO := hide (setRow_only w b #[.string ⟨#[]⟩, .int .i64 0, .int .i64 (flt : Int), .nilFunc, .int .i64 0, .slice none 0 0, .int .i64 0, .int .i64 0, .int .i64 0, .int .i64 0, .slice none 0 0, .nilFunc, .int .i64 0, .slice none 0 0, .int .i64 0, .int .i64 0, .int .i64 0, .map none, .pointer fp, .pointer lp, .bool false, .bool false])
  have HBK := hide hR.blk
  unfold Is at HBK
  have HFP := hide hfp
  have HLP := hide hlp
  have HR := hide hR
  clear hR hby hfp hlp
  go_enter Tryz.func50, Tryz.ntmps50
  go_wp2_with (refine wpList_store_row rfl 101 _ _ rfl b #[.string ⟨#[]⟩, .int .i64 0, .int .i64 (flt : Int), .nilFunc, .int .i64 0, .slice none 0 0, .int .i64 0, .int .i64 0, .int .i64 0, .int .i64 0, .slice none 0 0, .nilFunc, .int .i64 0, .slice none 0 0, .int .i64 0, .int .i64 0, .int .i64 0, .map none, .pointer fp, .pointer lp, .bool false, .bool false] rfl rfl 101 _ (unhide HBK) info_end rfl (Array.all_eq_true_iff_forall_mem.2 (by simp [Value.oneCell'])) ?_)
  go_end0
  refine ⟨rfl, (unhide HR).cell (c' := downC flt c.rs) ?_ ?_ rfl, ?_⟩
  · have := unhide HSI
    show Is _ b _ [.string ⟨#[]⟩, .int .i64 0, .int .i64 (flt : Int), .nilFunc, .int .i64 0, .slice none 0 0, .int .i64 0, .int .i64 0, .int .i64 0, .int .i64 0, .slice none 0 0, .nilFunc, .int .i64 0, .slice none 0 0, .int .i64 0, .int .i64 0, .int .i64 0, .map none, firstV c.rs, lastV c.rs, .bool false, .bool false]
    rw [unhide HFP, unhide HLP]
    exact this
  · exact unhide HSO
  · exact unhide HSO

set_option maxHeartbeats 2000000 in
set_option maxRecDepth 100000 in
theorem fall_unsaid (b flt n : Nat) (c : EC) (fs : List Lk.Fr) (w : World) (hR : Rw w b c fs) (hby : c.bs = false) (hn : c.inext = (n : Int)) (hn2 : n ≤ 268435457) :
    Calls Tryz.prog 50 #[.pointer (some ⟨b, 0, none⟩), .int .i64 (flt : Int)] w fun r w' => r = .returned (.tuple #[]) ∧ ∃ m, w.heap.size ≤ m ∧ Rw w' b (downC flt (c.rs ++ [m])) (fs ++ [⟨7, 0, Lk.wire (n - 2)⟩]) ∧ Only (fun i => i = b ∨ i ∈ c.rs) w w' := by
  have hbl := hR.lt
  have c20 : w.cell? ⟨b, 20, none⟩ = some (.bool false) := by have := hR.blk.cell 20; rw [← hby]; exact this
  have HS := hide (sendBye_raw b n c fs w hR hn hn2)
  clear hR hby hn
  go_enter Tryz.func50, Tryz.ntmps50
  go_wp2_with fail
  refine (unhide HS).mono ?_
  rintro r w1 ⟨rfl, m, hm, hR1, hO1⟩
  clear c20
  have c18 : w1.cell? ⟨b, 18, none⟩ = some (firstV (c.rs ++ [m])) := hR1.blk.cell 18
  have c19 : w1.cell? ⟨b, 19, none⟩ = some (lastV (c.rs ++ [m])) := hR1.blk.cell 19
  have c20 : w1.cell? ⟨b, 20, none⟩ = some (.bool true) := hR1.blk.cell 20
  have hbl1 := hR1.lt
  obtain ⟨fp, hfp⟩ := firstV_ptr (c.rs ++ [m])
  obtain ⟨lp, hlp⟩ := lastV_ptr (c.rs ++ [m])
  rw [hfp] at c18
  rw [hlp] at c19
  have HSI := hide (setRow_is hR1.blk #[.string ⟨#[]⟩, .int .i64 0, .int .i64 (flt : Int), .nilFunc, .int .i64 0, .slice none 0 0, .int .i64 0, .int .i64 0, .int .i64 0, .int .i64 0, .slice none 0 0, .nilFunc, .int .i64 0, .slice none 0 0, .int .i64 0, .int .i64 0, .int .i64 0, .map none, .pointer fp, .pointer lp, .bool false, .bool false])
  have HSO := hide (setRow_only w1 b #[.string ⟨#[]⟩, .int .i64 0, .int .i64 (flt : Int), .nilFunc, .int .i64 0, .slice none 0 0, .int .i64 0, .int .i64 0, .int .i64 0, .int .i64 0, .slice none 0 0, .nilFunc, .int .i64 0, .slice none 0 0, .int .i64 0, .int .i64 0, .int .i64 0, .map none, .pointer fp, .pointer lp, .bool false, .bool false])
  have HBK := hide hR1.blk
  unfold Is at HBK
  have HFP := hide hfp
  have HLP := hide hlp
  have HR1 := hide hR1
  have HO1 := hide hO1
  clear hR1 hO1 hfp hlp
  go_wp2_with (refine wpList_store_row rfl 101 _ _ rfl b #[.string ⟨#[]⟩, .int .i64 0, .int .i64 (flt : Int), .nilFunc, .int .i64 0, .slice none 0 0, .int .i64 0, .int .i64 0, .int .i64 0, .int .i64 0, .slice none 0 0, .nilFunc, .int .i64 0, .slice none 0 0, .int .i64 0, .int .i64 0, .int .i64 0, .map none, .pointer fp, .pointer lp, .bool false, .bool false] rfl rfl 101 _ (unhide HBK) info_end rfl (Array.all_eq_true_iff_forall_mem.2 (by simp [Value.oneCell'])) ?_)
  go_end0
  refine ⟨rfl, m, hm, (unhide HR1).cell (c' := downC flt (c.rs ++ [m])) ?_ ?_ rfl, (unhide HO1).trans (S' := fun i => i = b) ?_ (fun i hi _ => .inl hi)⟩
  · have := unhide HSI
    show Is _ b _ [.string ⟨#[]⟩, .int .i64 0, .int .i64 (flt : Int), .nilFunc, .int .i64 0, .slice none 0 0, .int .i64 0, .int .i64 0, .int .i64 0, .int .i64 0, .slice none 0 0, .nilFunc, .int .i64 0, .slice none 0 0, .int .i64 0, .int .i64 0, .int .i64 0, .map none, firstV (c.rs ++ [m]), lastV (c.rs ++ [m]), .bool false, .bool false]
    rw [unhide HFP, unhide HLP]
    exact this
  · exact unhide HSO
  · exact unhide HSO
end Go.Proofs.YtbkpdapagfjmmaaGreatDoor

/-
  Walks: an end comes down.
-/
namespace Go.Proofs.YtbkpdapagfjmmaaGreatDoor
open Go.RowKit

def downD (b : Nat) (rs : List Nat) (fs : List Lk.Fr) : PD := ⟨nilS, nilS, nilS, [], rs, b, 0, fun _ => .none, fs⟩
theorem downD_foot {b : Nat} {rs : List Nat} {fs : List Lk.Fr} {i : Nat} (h : foot b (downD b rs fs) i) : i = b ∨ i ∈ rs := by
  rcases h with hi | hi | hi | hi | hi | hi | hi | ⟨k, hi⟩
  · exact .inl hi
  · cases hi
  · cases hi
  · cases hi
  · cases hi
  · exact .inr hi
  · exact .inl hi
  · cases hi
theorem fall_any (b flt : Nat) (e : Lk.En) (d : PD) (w : World) (hL : Live w b e d) (hf : flt ≠ 0) :
    Calls Tryz.prog 50 #[.pointer (some ⟨b, 0, none⟩), .int .i64 (flt : Int)] w fun r w' => r = .returned (.tuple #[]) ∧ PPost w b d (e.dn flt).falls w' := by
  have hpb := hL.pos b (.inl rfl)
  have hbl := hL.rw.lt
  by_cases hby : e.byeS = true
  · have hfe : (e.dn flt).falls = e.dn flt := by
      unfold Lk.En.falls
      rw [if_neg]
      show ¬ (flt ≠ 0 ∧ e.byeS = false)
      rw [hby]
      simp
    rw [hfe]
    refine (fall_said b flt (ecOf e d) d.fs w hL.rw hby).mono ?_
    rintro r w' ⟨rfl, hR, hO⟩
    refine ⟨rfl, downD b d.rs d.fs, .inr ⟨hR, hL.rowe, hL.good, hf, ⟨rfl, rfl, rfl, rfl, rfl, fun _ => rfl⟩, hL.wf.withDown flt, fun i hi => ?_⟩, fun i hi => ?_, hO.mono (fun i hi => .inl hi)⟩
    · rcases downD_foot hi with rfl | hi
      · exact hpb
      · exact hL.pos i (.inr (.inr (.inr (.inr (.inr (.inl hi))))))
    · rcases downD_foot hi with rfl | hi
      · exact .inl (.inl rfl)
      · exact .inl (.inr (.inr (.inr (.inr (.inr (.inl hi))))))
  · have hby' : e.byeS = false := by simpa using hby
    have hfe : (e.dn flt).falls = (e.dn flt).bye := by
      unfold Lk.En.falls
      rw [if_pos]
      exact ⟨hf, hby'⟩
    rw [hfe]
    have hW : Lk.Wf (e.dn flt).bye := (hL.wf.withDown flt).bye
    have hn2 : nextOth e ≤ 268435457 := nextOth_le hL.wf
    refine (fall_unsaid b flt (nextOth e) (ecOf e d) d.fs w hL.rw hby' rfl hn2).mono ?_
    rintro r w' ⟨rfl, m, hm, hR, hO⟩
    have hlo : (e.dn flt).lastOth = nextOth e - 2 := lastOth_eq (hL.wf.withDown flt)
    have hR' : Rw w' b (ecDown (e.dn flt).bye (downD b (d.rs ++ [m]) (d.fs ++ [⟨7, 0, Lk.wire (nextOth e - 2)⟩]))) (downD b (d.rs ++ [m]) (d.fs ++ [⟨7, 0, Lk.wire (nextOth e - 2)⟩])).fs := hR
    refine ⟨rfl, downD b (d.rs ++ [m]) (d.fs ++ [⟨7, 0, Lk.wire (nextOth e - 2)⟩]), .inr ⟨hR', ?_, ?_, hf, ⟨rfl, rfl, rfl, rfl, rfl, fun _ => rfl⟩, hW, fun i hi => ?_⟩, fun i hi => ?_, hO.mono (fun i hi => ?_)⟩
    · show (e.dn flt).row ++ [Lk.packed 7 0 (Lk.wire (e.dn flt).lastOth)] = _
      rw [hlo]
      show e.row ++ _ = _
      rw [hL.rowe]
      show _ = (d.fs ++ [_]).map _
      rw [List.map_append]
      rfl
    · intro f hf'
      rcases List.mem_append.1 hf' with hf' | hf'
      · exact hL.good f hf'
      · simp at hf'
        subst hf'
        exact Lk.good_bye _ (by omega)
    · rcases downD_foot hi with rfl | hi
      · exact hpb
      · rcases List.mem_append.1 hi with hi | hi
        · exact hL.pos i (.inr (.inr (.inr (.inr (.inr (.inl hi))))))
        · simp at hi
          omega
    · rcases downD_foot hi with rfl | hi
      · exact .inl (.inl rfl)
      · rcases List.mem_append.1 hi with hi | hi
        · exact .inl (.inr (.inr (.inr (.inr (.inr (.inl hi))))))
        · simp at hi
          subst hi
          exact .inr hm
    · rcases hi with hi | hi
      · exact .inl hi
      · exact .inr (.inr (.inr (.inr (.inr (.inl hi)))))
end Go.Proofs.YtbkpdapagfjmmaaGreatDoor

/-
  Walks: the calls of an end, be it down or not.
-/
namespace Go.Proofs.YtbkpdapagfjmmaaGreatDoor
open Go.RowKit
namespace Lk
theorem En.back_down (e : En) (n : Nat) : (e.back n).down = e.down := by unfold En.back; split <;> rfl
theorem En.pingC_down (e : En) (t : Bs) : (e.pingC t).2.down = e.down := by unfold En.pingC; split <;> (try split) <;> rfl
theorem En.byeC_down (e : En) : e.byeC'.2.down = e.down := by unfold En.byeC'; split <;> (try split) <;> rfl
theorem En.submitC_down (e : En) (l : List Hd) (t : Bs) : (e.submitC l t).2.down = e.down := by
  unfold En.submitC
  split
  · rfl
  · split
    · rfl
    · split
      · rfl
      · split
        · rfl
        · split <;> rfl
theorem En.consumeC_down (e : En) (k n : Int) : (e.consumeC k n).2.down = e.down := by
  unfold En.consumeC
  split
  · rfl
  · split
    · rfl
    · split
      · rfl
      · split
        · rfl
        · split
          · rfl
          · simp only
            split <;> rfl
theorem En.resetC_down (e : En) (k n : Int) : (e.resetC k n).2.down = e.down := by
  unfold En.resetC
  split
  · rfl
  · split
    · rfl
    · split
      · rfl
      · split
        · simp only
          rw [En.back_down]
          rfl
        · rfl
end Lk
theorem Fallen.c2 {w : World} {b : Nat} {e : Lk.En} {d : PD} (h : Fallen w b e d) : w.cell? ⟨b, 2, .none⟩ = some (.int .i64 (e.down : Int)) := h.rw.blk.cell 2
theorem dn_bool {n : Nat} (h : n ≠ 0) : ((n : Int) != 0) = true := by simp; omega

theorem ping_dn (b : Nat) (n : Nat) (t : Value) (w : World) (hb : b < w.heap.size) (c2 : w.cell? ⟨b, 2, none⟩ = some (.int .i64 (n : Int))) (hn : n ≠ 0) :
    Calls Tryz.prog 33 #[.pointer (some ⟨b, 0, none⟩), t] w fun r w' => r = .returned (.int .i64 13) ∧ w' = w := by
  have HD := hide (down_any b n w hb c2)
  rw [dn_bool hn] at HD
  clear hn
  go_enter Tryz.func33, Tryz.ntmps33
  go_wp2_with fail
  refine (unhide HD).mono ?_
  rintro r w1 ⟨rfl, rfl⟩
  go_wp2_with fail
  go_ret
  exact ⟨rfl, rfl⟩
theorem bye_dn (b : Nat) (n : Nat) (w : World) (hb : b < w.heap.size) (c2 : w.cell? ⟨b, 2, none⟩ = some (.int .i64 (n : Int))) (hn : n ≠ 0) :
    Calls Tryz.prog 34 #[.pointer (some ⟨b, 0, none⟩)] w fun r w' => r = .returned (.int .i64 13) ∧ w' = w := by
  have HD := hide (down_any b n w hb c2)
  rw [dn_bool hn] at HD
  clear hn
  go_enter Tryz.func34, Tryz.ntmps34
  go_wp2_with fail
  refine (unhide HD).mono ?_
  rintro r w1 ⟨rfl, rfl⟩
  go_wp2_with fail
  go_ret
  exact ⟨rfl, rfl⟩
theorem consume_dn (b : Nat) (n : Nat) (k m : Int) (w : World) (hb : b < w.heap.size) (c2 : w.cell? ⟨b, 2, none⟩ = some (.int .i64 (n : Int))) (hn : n ≠ 0) :
    Calls Tryz.prog 31 #[.pointer (some ⟨b, 0, none⟩), .int .i64 k, .int .i64 m] w fun r w' => r = .returned (.int .i64 13) ∧ w' = w := by
  have HD := hide (down_any b n w hb c2)
  rw [dn_bool hn] at HD
  clear hn
  go_enter Tryz.func31, Tryz.ntmps31
  go_wp2_with fail
  refine (unhide HD).mono ?_
  rintro r w1 ⟨rfl, rfl⟩
  go_wp2_with fail
  go_ret
  exact ⟨rfl, rfl⟩
theorem reset_dn (b : Nat) (n : Nat) (k m : Int) (w : World) (hb : b < w.heap.size) (c2 : w.cell? ⟨b, 2, none⟩ = some (.int .i64 (n : Int))) (hn : n ≠ 0) :
    Calls Tryz.prog 69 #[.pointer (some ⟨b, 0, none⟩), .int .i64 k, .int .i64 m] w fun r w' => r = .returned (.int .i64 13) ∧ w' = w := by
  have HD := hide (down_any b n w hb c2)
  rw [dn_bool hn] at HD
  clear hn
  go_enter Tryz.func69, Tryz.ntmps69
  go_wp2_with fail
  refine (unhide HD).mono ?_
  rintro r w1 ⟨rfl, rfl⟩
  go_wp2_with fail
  go_ret
  exact ⟨rfl, rfl⟩
theorem submit_dn (b : Nat) (n : Nat) (lv body : Value) (w : World) (hb : b < w.heap.size) (c2 : w.cell? ⟨b, 2, none⟩ = some (.int .i64 (n : Int))) (hn : n ≠ 0) :
    Calls Tryz.prog 19 #[.pointer (some ⟨b, 0, none⟩), lv, body] w fun r w' => r = .returned (.tuple #[.int .i64 0, .int .i64 13, .int .i64 0]) ∧ w' = w := by
  have HD := hide (down_any b n w hb c2)
  rw [dn_bool hn] at HD
  clear hn
  go_enter Tryz.func19, Tryz.ntmps19
  go_wp2_with fail
  refine (unhide HD).mono ?_
  rintro r w1 ⟨rfl, rfl⟩
  go_wp2_with fail
  go_ret3
  exact ⟨rfl, rfl⟩

theorem ping_p (b : Nat) (e : Lk.En) (d : PD) (t : ByteArray) (w : World) (hL : PEnd w b e d) :
    Calls Tryz.prog 33 #[.pointer (some ⟨b, 0, none⟩), .string t] w fun r w' => r = .returned (.int .i64 ((e.pingC t.data.toList).1 : Int)) ∧ PPost w b d (e.pingC t.data.toList).2 w' := by
  rcases hL with ⟨hL, hdn⟩ | hL
  · exact (ping_any b e d t w hL hdn).mono fun r w' h => ⟨h.1, h.2.toP ((Lk.En.pingC_down _ _).trans hdn)⟩
  · have : e.pingC t.data.toList = (13, e) := by unfold Lk.En.pingC; rw [if_pos hL.dn]
    rw [this]
    exact (ping_dn b e.down _ w hL.rw.lt hL.c2 hL.dn).mono fun r w' h => ⟨h.1, by rw [h.2]; exact PPost.same (.inr hL)⟩
theorem bye_p (b : Nat) (e : Lk.En) (d : PD) (w : World) (hL : PEnd w b e d) :
    Calls Tryz.prog 34 #[.pointer (some ⟨b, 0, none⟩)] w fun r w' => r = .returned (.int .i64 (e.byeC'.1 : Int)) ∧ PPost w b d e.byeC'.2 w' := by
  rcases hL with ⟨hL, hdn⟩ | hL
  · exact (bye_any b e d w hL hdn).mono fun r w' h => ⟨h.1, h.2.toP ((Lk.En.byeC_down _).trans hdn)⟩
  · have : e.byeC' = (13, e) := by unfold Lk.En.byeC'; rw [if_pos hL.dn]
    rw [this]
    exact (bye_dn b e.down w hL.rw.lt hL.c2 hL.dn).mono fun r w' h => ⟨h.1, by rw [h.2]; exact PPost.same (.inr hL)⟩
theorem consume_p (b : Nat) (e : Lk.En) (d : PD) (k n : Int) (w : World) (hL : PEnd w b e d) (hk : I64 k) :
    Calls Tryz.prog 31 #[.pointer (some ⟨b, 0, none⟩), .int .i64 k, .int .i64 n] w fun r w' => r = .returned (.int .i64 ((e.consumeC k n).1 : Int)) ∧ PPost w b d (e.consumeC k n).2 w' := by
  rcases hL with ⟨hL, hdn⟩ | hL
  · exact (consume_any b e d k n w hL hdn hk).mono fun r w' h => ⟨h.1, h.2.toP ((Lk.En.consumeC_down _ _ _).trans hdn)⟩
  · have : e.consumeC k n = (13, e) := by unfold Lk.En.consumeC; rw [if_pos hL.dn]
    rw [this]
    exact (consume_dn b e.down _ _ w hL.rw.lt hL.c2 hL.dn).mono fun r w' h => ⟨h.1, by rw [h.2]; exact PPost.same (.inr hL)⟩
theorem reset_p (b : Nat) (e : Lk.En) (d : PD) (k n : Int) (w : World) (hL : PEnd w b e d) (hk : I64 k) :
    Calls Tryz.prog 69 #[.pointer (some ⟨b, 0, none⟩), .int .i64 k, .int .i64 n] w fun r w' => r = .returned (.int .i64 ((e.resetC k n).1 : Int)) ∧ PPost w b d (e.resetC k n).2 w' := by
  rcases hL with ⟨hL, hdn⟩ | hL
  · exact (reset_any b e d k n w hL hdn hk).mono fun r w' h => ⟨h.1, h.2.toP ((Lk.En.resetC_down _ _ _).trans hdn)⟩
  · have : e.resetC k n = (13, e) := by unfold Lk.En.resetC; rw [if_pos hL.dn]
    rw [this]
    exact (reset_dn b e.down _ _ w hL.rw.lt hL.c2 hL.dn).mono fun r w' h => ⟨h.1, by rw [h.2]; exact PPost.same (.inr hL)⟩
theorem submit_p (b B1 : Nat) (e : Lk.En) (d : PD) (l : List Lk.Hd) (lv : Value) (body : ByteArray) (w : World) (hL : PEnd w b e d) (hfx : Fx w) (own : w.ownsRow B1 112 2 lv l.length (hdsV l)) :
    Calls Tryz.prog 19 #[.pointer (some ⟨b, 0, none⟩), lv, .string body] w fun r w' => r = .returned (.tuple #[.int .i64 ((e.submitC l body.data.toList).1.1 : Int), .int .i64 ((e.submitC l body.data.toList).1.2.1 : Int), .int .i64 ((e.submitC l body.data.toList).1.2.2 : Int)]) ∧ PPost w b d (e.submitC l body.data.toList).2 w' := by
  rcases hL with ⟨hL, hdn⟩ | hL
  · exact (submit_any b B1 e d l lv body w hL hdn hfx own).mono fun r w' h => ⟨h.1, h.2.toP ((Lk.En.submitC_down _ _ _).trans hdn)⟩
  · have : e.submitC l body.data.toList = ((0, 13, 0), e) := by unfold Lk.En.submitC; rw [if_pos hL.dn]
    rw [this]
    exact (submit_dn b e.down _ _ w hL.rw.lt hL.c2 hL.dn).mono fun r w' h => ⟨h.1, by rw [h.2]; exact PPost.same (.inr hL)⟩
end Go.Proofs.YtbkpdapagfjmmaaGreatDoor

/-
  Walks: what is asked of a kind, a stream, a length (both sides).
-/
namespace Go.Proofs.YtbkpdapagfjmmaaGreatDoor
open Go.RowKit

set_option maxHeartbeats 400000 in
theorem streamFits_any (k s : Int) (w : World) :
    Calls Tryz.prog 85 #[.int .i64 k, .int .i64 s] w fun e w' => e = .returned (.bool (Lk.streamFits k s)) ∧ w' = w := by
  go_enter Tryz.func85, Tryz.ntmps85
  go_wp2
  all_goals go_ret
  all_goals refine ⟨ret_bool ?_, rfl⟩
  all_goals unfold Lk.streamFits
  all_goals (repeat' split) <;> first | rfl | omega | (simp_all; done) | (exfalso; simp_all; omega)

set_option maxHeartbeats 400000 in
theorem lengthFits_any (k n : Int) (w : World) :
    Calls Tryz.prog 86 #[.int .i64 k, .int .i64 n] w fun e w' => e = .returned (.bool (Lk.lengthFits k n)) ∧ w' = w := by
  go_enter Tryz.func86, Tryz.ntmps86
  go_wp2
  all_goals go_ret
  all_goals refine ⟨ret_bool ?_, rfl⟩
  all_goals unfold Lk.lengthFits
  all_goals (repeat' split) <;> first | rfl | omega | (simp_all; done) | (exfalso; simp_all; omega) | (simp_all; omega)

set_option maxHeartbeats 400000 in
theorem askKind_any (k : Int) (w : World) :
    Calls Tryz.prog 132 #[.int .i64 k] w fun e w' => e = .returned (.int .i64 (Lk.kindErr k)) ∧ w' = w := by
  go_enter Tryz.func132, Tryz.ntmps132
  go_wp2
  all_goals go_ret
  all_goals refine ⟨ret_int ?_, rfl⟩
  all_goals unfold Lk.kindErr
  all_goals first | (rw [if_pos (by omega)]; done) | (rw [if_neg (by omega)]; done)

theorem kinds8 {k : Int} (h0 : 0 ≤ k) (h7 : k ≤ 7) : k = 0 ∨ k = 1 ∨ k = 2 ∨ k = 3 ∨ k = 4 ∨ k = 5 ∨ k = 6 ∨ k = 7 := by omega

def wantOf (k : Int) : Int × Int × Int × Int :=
  if k = 0 then (1, 268435455, 0, 64) else if k = 1 then (1, 268435455, 1, 16) else if k = 2 then (1, 268435455, 0, 16) else if k = 3 then (1, 268435455, 1, 4)
  else if k = 4 then (0, 268435455, 1, 4) else if k = 5 then (0, 0, 8, 8) else if k = 6 then (0, 0, 8, 8) else (0, 0, 1, 4)

set_option maxHeartbeats 400000 in
theorem wantOf_any (k : Int) (h0 : 0 ≤ k) (h7 : k ≤ 7) (w : World) :
    Calls Tryz.prog 173 #[.int .i64 k] w fun e w' => e = .returned (.agg #[.int .i64 (wantOf k).1, .int .i64 (wantOf k).2.1, .int .i64 (wantOf k).2.2.1, .int .i64 (wantOf k).2.2.2]) ∧ Below w.heap.size w w' := by
  rcases kinds8 h0 h7 with rfl | rfl | rfl | rfl | rfl | rfl | rfl | rfl
  all_goals
    rw [wantOf]
    go_enter Tryz.func173, Tryz.ntmps173
    go_wp2
    refine bodyPost_ret (v := _) (by simp [results, Tryz.results173, go_sem]) rfl ⟨rfl, ?_⟩
    ((repeat' (first | exact Below.refl _ _ | assumption | apply Below.drew | apply Below.alloc | apply Below.setCell)) <;> (simp <;> omega))

def IsWant (k a b x y : Int) : Prop := wantOf k = (a, b, x, y)

theorem wantOf_is (k : Int) (h0 : 0 ≤ k) (h7 : k ≤ 7) (w : World) :
    Calls Tryz.prog 173 #[.int .i64 k] w fun e w' => ∃ a b x y, e = .returned (.agg #[.int .i64 a, .int .i64 b, .int .i64 x, .int .i64 y]) ∧ IsWant k a b x y ∧ Below w.heap.size w w' := by
  refine (wantOf_any k h0 h7 w).mono ?_
  rintro e w' ⟨rfl, hb⟩
  exact ⟨_, _, _, _, rfl, rfl, hb⟩

end Go.Proofs.YtbkpdapagfjmmaaGreatDoor
