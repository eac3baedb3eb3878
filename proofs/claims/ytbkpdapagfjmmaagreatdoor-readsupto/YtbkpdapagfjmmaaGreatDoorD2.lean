/-
  Walks: Feed, the document's.
-/
import Derived.Test.YtbkpdapagfjmmaaGreatDoorD1
import Derived.Test.YtbkpdapagfjmmaaGreatDoorR5
namespace Go.Proofs.YtbkpdapagfjmmaaGreatDoor
open Go.RowKit

theorem info_rframe : (Tryz.prog.info? 66).map (fun i => (i.zero, i.size, i.bytes)) = some (some (.agg #[.int .i64 0, .int .i64 0, .string ⟨#[]⟩]), 3, 32) := by kernel_rfl

/-- The size of the string in cell 0 of a block. -/
def restOf (b : Nat) (w : World) : Nat := match w.cell? ⟨b, 0, none⟩ with
  | some (.string s) => s.size
  | _ => 0

theorem restOf_is {b : Nat} {w : World} {T : TypeId} {s : ByteArray} {z : Value} (h : Is w b T [.string s, z]) : restOf b w = s.size := by
  unfold restOf
  rw [h.cell 0]
  simp

set_option maxHeartbeats 1000000 in
set_option maxRecDepth 100000 in
theorem refFeed_ok (b : Nat) (s t : ByteArray) (w : World) (hsz : s.size + t.size ≤ 2 ^ 40)
    (hI : Is w b 54 [.string s, .int .i64 0]) :
    Calls Tryz.prog 21 #[.pointer (some ⟨b, 0, none⟩), .string t] w fun e w' =>
      ∃ v, e = .returned (.tuple #[v, .int .i64 ((Lk.all (s.data.toList ++ t.data.toList)).2.1 : Int)])
        ∧ w'.ownsRow w.heap.size 66 3 v (Lk.all (s.data.toList ++ t.data.toList)).1.length (framesV (Lk.all (s.data.toList ++ t.data.toList)).1)
        ∧ (∃ R : ByteArray, Is w' b 54 [.string R, .int .i64 ((Lk.all (s.data.toList ++ t.data.toList)).2.1 : Int)] ∧ ((Lk.all (s.data.toList ++ t.data.toList)).2.1 = 0 → R.data.toList = (Lk.all (s.data.toList ++ t.data.toList)).2.2))
        ∧ Turns b w w' := by
  have hSl : (s ++ t).data.toList = s.data.toList ++ t.data.toList := by simp
  have hSz : (s ++ t).size = s.size + t.size := by simp
  have hadd : s.size + t.size ≤ 9223372036854775807 := by omega
  rw [← hSl]
  clear hSl
  have c0 : w.cell? ⟨b, 0, none⟩ = some (.string s) := hI.cell 0
  have c1 : w.cell? ⟨b, 1, none⟩ = some (.int .i64 0) := hI.cell 1
  have f0 : w.frozen? ⟨b, 0, none⟩ = false := hI.free 0
  have hbl := hI.lt
  obtain ⟨i, hi, hz0, hz1, hz2⟩ := info_parts info_rframe
  go_enter Tryz.func21, Tryz.ntmps21
  go_wp2_with fail
  have hI1 := hI.set 0 (.string (s ++ t))
  have hT1 := (Turns.refl b w).set 0 (.string (s ++ t))
  generalize hSS : (s ++ t) = S at *
  have HSS := hide hSS
  clear hSS
  generalize hL : S.data.toList = L
  have HL := hide hL
  have hLl : L.length = S.size := by rw [← hL, size_list]
  go_loopw [6] (fun v wr => ∃ (p : Nat) (fs : List Lk.Fr) (R : ByteArray), Hid (R.data.toList = L.drop p) ∧ R.size ≤ 2 ^ 40 ∧ Fed L p fs ∧ p ≤ L.length ∧ Is wr b 54 [.string R, .int .i64 0] ∧ wr.ownsRow w.heap.size 66 3 v fs.length (framesV fs) ∧ Turns b w wr) (fun _ wr => restOf b wr)
  case atStart => exact ⟨0, [], S, by rw [hL]; rfl, by omega, Fed.start _, Nat.zero_le _, hI1, World.ownsRow_nil _ _ _ _, hT1⟩
  case round =>
    clear hL hI1 hT1 hI c0 c1 f0
    obtain ⟨p, fs, R, HR, hR40, hfed, hp, hIr, hown, hTr⟩ := hrel
    have d0 := hIr.cell 0
    simp only [List.getElem?_cons_zero] at d0
    go_wp2_with fail
    refine (refnext_any R _ (by omega)).mono ?_
    rw [unhide HR]
    rintro e w1 ⟨⟨a, b', c, n, e', rfl, hnext⟩, hb1⟩
    have hI1 := hIr.below hb1 hIr.lt
    have hT1 := hTr.below hb1
    have hown1 := kept_turns hown hbl ((Turns.refl b _).below hb1)
    have hRl : R.size = L.length - p := by rw [size_list, unhide HR, List.length_drop]
    have e0 := hI1.cell 0
    have e1 := hI1.cell 1
    have g0 := hI1.free 0
    have g1 := hI1.free 1
    simp only [List.getElem?_cons_zero, List.getElem?_cons_succ] at e0 e1
    have hlt := hI1.lt
    clear hown hTr d0 hb1
    rcases hnext with ⟨hx, rfl, rfl⟩ | ⟨k, hx, rfl, rfl⟩ | ⟨k, st, d, j, hx, rfl, rfl, rfl, rfl, rfl⟩
    · have HALL := hide (hfed.more hx)
      clear hx hfed hRl
      go_wp2_with fail
      go_ret2
      rw [unhide HSS, unhide HL, unhide HALL]
      exact ⟨_, rfl, (kept_turns hown1 hbl ((Turns.refl b _).set 1 _)).alloc _, ⟨R, (hI1.set 1 _).alloc _, fun _ => unhide HR⟩, (hT1.set 1 _).alloc _⟩
    · have HALL := hide (hfed.err hx)
      have hk := Lk.nx_err_pos hx
      have hk' : ((k : Int) != 0) = true := by rw [bne_iff_ne]; omega
      clear hx hfed hRl
      go_wp2_with fail
      go_ret2
      rw [unhide HSS, unhide HL, unhide HALL]
      exact ⟨_, rfl, (kept_turns hown1 hbl ((Turns.refl b _).set 1 _)).alloc _, ⟨R, (hI1.set 1 _).alloc _, fun h => absurd h hk⟩, (hT1.set 1 _).alloc _⟩
    · have hbd := Lk.nx_frame_bounds hx
      rw [List.length_drop] at hbd
      have hfed2 := hfed.next hx
      have hfl := hfed2.2
      simp only [List.length_append, List.length_cons, List.length_nil] at hfl
      have hj0 : ((j : Int) == 0) = false := by rw [beq_eq_false_iff_ne]; omega
      have hjs : (j : Int) ≤ R.size := by omega
      have hRd : (R.extract j R.size).data.toList = L.drop (p + j) := by
        rw [extract_end, ← List.drop_drop, ← unhide HR]
      have hRz : (R.extract j R.size).size = R.size - j := by rw [ByteArray.size_extract]; omega
      have HRD := hide hRd
      have HRZ := hide hRz
      have HRL := hide hRl
      clear hRd hRz hRl hx hfed
      go_wp2_with (at_builtin; refine wpList_append_own _ rfl _ _ 59 rfl w.heap.size 66 i _ 3 32 Tryz.underlying59 hi hz0 hz1 hz2 rfl (by decide) _ fs.length (framesV fs) rfl ((hown1.alloc _).alloc _) ⟨w1.heap.size + 1, 0, none⟩ 1 1 [.int .i64 (k : Int), .int .i64 (st : Int), .string ⟨d.toArray⟩] rfl rfl ?hnews ?h1 ?h63 ?hby ?hba ?_)
      case hnews =>
        have e := cells_three (w1.alloc (.cells #[.int .i64 (k : Int), .int .i64 (st : Int), .string ⟨d.toArray⟩] 66)) (.int .i64 (k : Int)) (.int .i64 (st : Int)) (.string ⟨d.toArray⟩) 66
        simpa using e
      case h1 => simp [Value.oneCell']
      case h63 => unfold maxLen; omega
      case hby => omega
      case hba => have := hT1.size; simp; omega
      intro v2 w2 ho2 hg2 _
      have hrow : ∀ j, Value.ownBlock u6 = some j → w.heap.size ≤ j := fun j hj => (hown1.lt j hj).1
      have hI3 := ((hI1.alloc (.cells #[.int .i64 (k : Int), .int .i64 (st : Int), .string ⟨d.toArray⟩] 66)).alloc (.cells #[.int .i64 (k : Int), .int .i64 (st : Int), .string ⟨d.toArray⟩] 66)).grown hg2 (fun e => by have := hrow b e.symm; omega)
      have hT3 := ((hT1.alloc (.cells #[.int .i64 (k : Int), .int .i64 (st : Int), .string ⟨d.toArray⟩] 66)).alloc (.cells #[.int .i64 (k : Int), .int .i64 (st : Int), .string ⟨d.toArray⟩] 66)).grownNew hg2 hrow
      have e3 := framesV_snoc fs ⟨k, st, d⟩
      rw [e3] at ho2
      clear e3 hI1 hT1 hown1 hg2 hrow e0 e1 g0 g1
      have e0 := hI3.cell 0
      have g0 := hI3.free 0
      simp only [List.getElem?_cons_zero] at e0
      go_wp2_with fail
      go_roundw
      case rel => exact ⟨p + j, fs ++ [⟨k, st, d⟩], R.extract j R.size, HRD, by have := unhide HRZ; omega, hfed2, by omega, hI3.set 0 _, by simpa using kept_turns ho2 hbl ((Turns.refl b _).set 0 _), hT3.set 0 _⟩
      case measure =>
        rw [restOf_is (hI3.set 0 _), restOf_is hIr]
        have := unhide HRZ
        omega

/-- Behind an error nothing is read. -/
theorem refFeed_bad (b : Nat) (s t : ByteArray) (f : Int) (w : World) (hf : f ≠ 0)
    (hI : Is w b 54 [.string s, .int .i64 f]) :
    Calls Tryz.prog 21 #[.pointer (some ⟨b, 0, none⟩), .string t] w fun e w' =>
      e = .returned (.tuple #[.slice none 0 0, .int .i64 f]) ∧ ∃ n, w' = w.drewN n := by
  have c1 : w.cell? ⟨b, 1, none⟩ = some (.int .i64 f) := hI.cell 1
  have hf' : (f != 0) = true := by rw [bne_iff_ne]; exact hf
  clear hI hf
  go_enter Tryz.func21, Tryz.ntmps21
  go_wp2_with fail
  go_quiet (fail)
  go_wp2_with fail
  go_ret2
  exact ⟨rfl, _, rfl⟩

end Go.Proofs.YtbkpdapagfjmmaaGreatDoor
