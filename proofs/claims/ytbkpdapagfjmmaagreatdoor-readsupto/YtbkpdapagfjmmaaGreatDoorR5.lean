/-
  Walks: Feed, the program's.
-/
import Derived.Test.YtbkpdapagfjmmaaGreatDoorR4
import Derived.Test.YtbkpdapagfjmmaaGreatDoorM1
import Derived.Test.YtbkpdapagfjmmaaGreatDoorSpec2
namespace Go.Proofs.YtbkpdapagfjmmaaGreatDoor
open Go.RowKit

/-- The cells of frames. -/
def framesV (fs : List Lk.Fr) : List Value := fs.flatMap fun f => [.int .i64 (f.k : Int), .int .i64 (f.st : Int), .string ⟨f.d.toArray⟩]

theorem framesV_snoc (fs : List Lk.Fr) (f : Lk.Fr) : framesV fs ++ [.int .i64 (f.k : Int), .int .i64 (f.st : Int), .string ⟨f.d.toArray⟩] = framesV (fs ++ [f]) := by
  simp [framesV]

theorem info_frame : (Tryz.prog.info? 79).map (fun i => (i.zero, i.size, i.bytes)) = some (some (.agg #[.int .i64 0, .int .i64 0, .string ⟨#[]⟩]), 3, 32) := by kernel_rfl

/-- The number in cell 1 of a block. -/
def atOf (b : Nat) (w : World) : Nat := match w.cell? ⟨b, 1, none⟩ with
  | some (.int _ n) => n.toNat
  | _ => 0

theorem atOf_is {b : Nat} {w : World} {T : TypeId} {x : Value} {more : List Value} {p : Nat} (h : Is w b T (x :: .int .i64 p :: more)) : atOf b w = p := by
  unfold atOf
  rw [h.cell 1]
  simp

/-- In the loop: so far fs have come, and the cursor is at p. -/
def Fed (L : Lk.Bs) (p : Nat) (fs : List Lk.Fr) : Prop := Lk.all L = (fs ++ (Lk.all (L.drop p)).1, (Lk.all (L.drop p)).2) ∧ 3 * fs.length ≤ p

theorem Fed.start (L : Lk.Bs) : Fed L 0 [] := ⟨by simp, by simp⟩
theorem Fed.next {L d : Lk.Bs} {p k st n : Nat} {fs : List Lk.Fr} (h : Fed L p fs) (hn : Lk.nx (L.drop p) = .frame k st d n) : Fed L (p + n) (fs ++ [⟨k, st, d⟩]) := by
  have hb := Lk.nx_frame_bounds hn
  have h2 := h.2
  refine ⟨?_, by simp; omega⟩
  rw [h.1, Lk.all_frame hn, List.drop_drop]
  simp
theorem Fed.more {L : Lk.Bs} {p : Nat} {fs : List Lk.Fr} (h : Fed L p fs) (hn : Lk.nx (L.drop p) = .more) : Lk.all L = (fs, 0, L.drop p) := by
  rw [h.1, Lk.all_more hn]; simp
theorem Fed.err {L : Lk.Bs} {p e : Nat} {fs : List Lk.Fr} (h : Fed L p fs) (hn : Lk.nx (L.drop p) = .err e) : Lk.all L = (fs, e, []) := by
  rw [h.1, Lk.all_err hn]; simp

theorem extract_end (S : ByteArray) (p : Nat) : S.extract p S.size = ⟨(S.data.toList.drop p).toArray⟩ := by
  have e := extract_list S p S.size
  rw [List.take_of_length_le (by rw [List.length_drop, ← size_list]; omega)] at e
  rw [← e]

theorem cells_three (w : World) (x y z : Value) (T : TypeId) : ∀ j u, [x, y, z][j]? = some u → (w.alloc (.cells #[x, y, z] T)).cell? ((⟨w.heap.size, 0, none⟩ : Addr).add j) = some u := by
  intro j u hu
  have hplain : (⟨w.heap.size, 0, none⟩ : Addr).add j = ⟨w.heap.size, j, none⟩ := by unfold Addr.add; split <;> simp_all
  rw [hplain]
  have := (Is.new w T [x, y, z]).cell j
  rw [← hu]
  exact this

set_option maxHeartbeats 1000000 in
set_option maxRecDepth 100000 in
theorem feed_ok {T : TypeId} {more : List Value} (b : Nat) (s t : ByteArray) (w : World) (hsz : s.size + t.size ≤ 2 ^ 40)
    (hI : Is w b T (.string s :: .int .i64 0 :: .int .i64 0 :: more)) :
    Calls Tryz.prog 48 #[.pointer (some ⟨b, 0, none⟩), .string t] w fun e w' =>
      ∃ v, e = .returned (.tuple #[v, .int .i64 ((Lk.all (s.data.toList ++ t.data.toList)).2.1 : Int)])
        ∧ w'.ownsRow w.heap.size 79 3 v (Lk.all (s.data.toList ++ t.data.toList)).1.length (framesV (Lk.all (s.data.toList ++ t.data.toList)).1)
        ∧ Is w' b T (.string ⟨(Lk.all (s.data.toList ++ t.data.toList)).2.2.toArray⟩ :: .int .i64 0 :: .int .i64 ((Lk.all (s.data.toList ++ t.data.toList)).2.1 : Int) :: more)
        ∧ Turns b w w' := by
  have hSl : (s ++ t).data.toList = s.data.toList ++ t.data.toList := by simp
  have hSz : (s ++ t).size = s.size + t.size := by simp
  have hadd : s.size + t.size ≤ 9223372036854775807 := by omega
  rw [← hSl]
  clear hSl
  have c0 : w.cell? ⟨b, 0, none⟩ = some (.string s) := hI.cell 0
  have c2 : w.cell? ⟨b, 2, none⟩ = some (.int .i64 0) := hI.cell 2
  have f0 : w.frozen? ⟨b, 0, none⟩ = false := hI.free 0
  have hbl := hI.lt
  obtain ⟨i, hi, hz0, hz1, hz2⟩ := info_parts info_frame
  go_enter Tryz.func48, Tryz.ntmps48
  go_wp2_with fail
  have hI1 := hI.set 0 (.string (s ++ t))
  have hT1 := (Turns.refl b w).set 0 (.string (s ++ t))
  generalize hSS : (s ++ t) = S at *
  have HSS := hide hSS
  clear hSS
  go_loopw [6] (fun v wr => ∃ (p : Nat) (fs : List Lk.Fr), p ≤ S.size ∧ Fed S.data.toList p fs ∧ Is wr b T (.string S :: .int .i64 p :: .int .i64 0 :: more) ∧ wr.ownsRow w.heap.size 79 3 v fs.length (framesV fs) ∧ Turns b w wr) (fun _ wr => S.size - atOf b wr)
  case atStart => exact ⟨0, [], Nat.zero_le _, Fed.start _, hI1, World.ownsRow_nil _ _ _ _, hT1⟩
  case round =>
    obtain ⟨p, fs, hp, hfed, hIr, hown, hTr⟩ := hrel
    have d1 := hIr.cell 1
    simp only [List.getElem?_cons_zero, List.getElem?_cons_succ] at d1
    clear c0 c2 f0 hI1 hT1 hI
    go_wp2_with fail
    refine (frame_any b S p 0 _ (by unfold maxLen; omega) hp hIr).mono ?_
    rintro e w1 ⟨rfl, ⟨p', hp', hpast, hI1⟩, hT1⟩
    have hT2 := hTr.trans hT1
    have hown1 := kept_turns hown hbl hT1
    clear hown hT1 hTr d1
    cases hnx : Lk.nx (S.data.toList.drop p) with
    | more =>
      have HALL := hide (hfed.more hnx)
      have hlen := Lk.nx_more_len hnx
      rw [List.length_drop, ← size_list] at hlen
      simp only [frameVal]
      clear hnx hpast hfed
      go_wp2_with fail
      refine (keep_ok b S p' p 0 _ (by unfold maxLen; omega) hp (by omega) (hI1.alloc _)).mono ?_
      rintro e w2 ⟨rfl, hI2, hT3⟩
      have hown2 := kept_turns (hown1.alloc _) hbl hT3
      have hT4 := (hT2.alloc _).trans hT3
      clear hown1 hI1 hT2 hT3
      go_wp2_with fail
      go_ret2
      rw [unhide HSS, unhide HALL]
      rw [extract_end] at hI2
      exact ⟨_, rfl, hown2, hI2, hT4⟩
    | err e0 =>
      have HALL := hide (hfed.err hnx)
      have he0 := Lk.nx_err_pos hnx
      simp only [frameVal]
      clear hnx hpast hfed
      go_wp2_with fail
      refine (keep_bad b S p' p 0 e0 _ (by omega) (hI1.alloc _)).mono ?_
      rintro e w2 ⟨rfl, hI2, hT3⟩
      have hown2 := kept_turns (hown1.alloc _) hbl hT3
      have hT4 := (hT2.alloc _).trans hT3
      clear hown1 hI1 hT2 hT3
      go_wp2_with fail
      go_ret2
      rw [unhide HSS, unhide HALL]
      exact ⟨_, rfl, hown2, hI2, hT4⟩
    | frame k st d n =>
      have hpp := hpast k st d n hnx
      have hfed2 := hfed.next hnx
      have hbd := Lk.nx_frame_bounds hnx
      rw [List.length_drop, ← size_list] at hbd
      have hfl := hfed2.2
      rw [← hpp] at hfed2 hfl
      simp only [List.length_append, List.length_cons, List.length_nil] at hfl
      simp only [frameVal]
      clear hnx hpast hfed
      go_wp2_with (at_builtin; refine wpList_append_own _ rfl _ _ 118 rfl w.heap.size 79 i _ 3 32 Tryz.underlying118 hi hz0 hz1 hz2 rfl (by decide) _ fs.length (framesV fs) rfl ((hown1.alloc _).alloc _) ⟨w1.heap.size + 1, 0, none⟩ 1 1 [.int .i64 (k : Int), .int .i64 (st : Int), .string ⟨d.toArray⟩] rfl rfl ?hnews ?h1 ?h63 ?hby ?hba ?_)
      case hnews =>
        have e := cells_three (w1.alloc (.cells #[.int .i64 (k : Int), .int .i64 (st : Int), .string ⟨d.toArray⟩] 79)) (.int .i64 (k : Int)) (.int .i64 (st : Int)) (.string ⟨d.toArray⟩) 79
        simpa using e
      case h1 => simp [Value.oneCell']
      case h63 => unfold maxLen; omega
      case hby => omega
      case hba => have := hT2.size; simp; omega
      intro v2 w2 ho2 hg2 _
      have hrow : ∀ j, Value.ownBlock u6 = some j → w.heap.size ≤ j := fun j hj => (hown1.lt j hj).1
      have hI3 := ((hI1.alloc (.cells #[.int .i64 (k : Int), .int .i64 (st : Int), .string ⟨d.toArray⟩] 79)).alloc (.cells #[.int .i64 (k : Int), .int .i64 (st : Int), .string ⟨d.toArray⟩] 79)).grown hg2 (fun e => by have := hrow b e.symm; omega)
      have hT3 := ((hT2.alloc (.cells #[.int .i64 (k : Int), .int .i64 (st : Int), .string ⟨d.toArray⟩] 79)).alloc (.cells #[.int .i64 (k : Int), .int .i64 (st : Int), .string ⟨d.toArray⟩] 79)).grownNew hg2 hrow
      have e3 := framesV_snoc fs ⟨k, st, d⟩
      rw [e3] at ho2
      have HPP := hide hpp
      clear hpp e3 hI1 hT2 hown1 hg2 hrow
      go_wp2_with fail
      go_roundw
      case rel => exact ⟨p', fs ++ [⟨k, st, d⟩], hp', hfed2, hI3, by simpa using ho2, hT3⟩
      case measure =>
        rw [atOf_is hI3, atOf_is hIr]
        have := unhide HPP
        omega

/-- Behind an error nothing is read. -/
theorem feed_bad {T : TypeId} {more : List Value} (b : Nat) (s t : ByteArray) (f : Int) (w : World) (hf : f ≠ 0)
    (hI : Is w b T (.string s :: .int .i64 0 :: .int .i64 f :: more)) :
    Calls Tryz.prog 48 #[.pointer (some ⟨b, 0, none⟩), .string t] w fun e w' =>
      e = .returned (.tuple #[.slice none 0 0, .int .i64 f]) ∧ ∃ n, w' = w.drewN n := by
  have c2 : w.cell? ⟨b, 2, none⟩ = some (.int .i64 f) := hI.cell 2
  have hf' : (f != 0) = true := by rw [bne_iff_ne]; exact hf
  clear hI hf
  go_enter Tryz.func48, Tryz.ntmps48
  go_wp2_with fail
  go_quiet (fail)
  go_wp2_with fail
  go_ret2
  exact ⟨rfl, _, rfl⟩

end Go.Proofs.YtbkpdapagfjmmaaGreatDoor
