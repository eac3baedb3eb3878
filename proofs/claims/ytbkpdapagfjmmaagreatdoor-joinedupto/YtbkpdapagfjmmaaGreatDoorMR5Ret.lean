import Derived.Test.YtbkpdapagfjmmaaGreatDoorR4
import Derived.Test.YtbkpdapagfjmmaaGreatDoorMT1M1
import Derived.Test.YtbkpdapagfjmmaaGreatDoorMSpecSpec3
import Derived.Test.YtbkpdapagfjmmaaGreatDoorMFMW2
import Derived.Test.YtbkpdapagfjmmaaGreatDoorMP3W3
import Derived.Test.YtbkpdapagfjmmaaGreatDoorMW4W7
import Derived.Test.YtbkpdapagfjmmaaGreatDoorMF1PB
/-
  Walks: Feed, the program's.
-/
namespace Go.Proofs.YtbkpdapagfjmmaaGreatDoor
open Go.RowKit

/-- The cells of frames. -/
def framesV (fs : List Lk.Fr) : List Value := fs.flatMap fun f => [.int .i64 (f.k : Int), .int .i64 (f.st : Int), .string ⟨f.d.toArray⟩]

theorem framesV_snoc (fs : List Lk.Fr) (f : Lk.Fr) : framesV fs ++ [.int .i64 (f.k : Int), .int .i64 (f.st : Int), .string ⟨f.d.toArray⟩] = framesV (fs ++ [f]) := by
  simp [framesV]

theorem info_frame : (Tryz.prog.info? 79).map (fun i => (i.zero, i.size, i.bytes)) = some (some (.agg #[.int .i64 0, .int .i64 0, .string ⟨#[]⟩]), 3, 32) := by kernel_rfl

/-- The number in cell 1 of a block. -/
def atOf (b : Nat) (w : World) : Nat := match w.cell? ⟨b, 1, none⟩ with
  | some (.int _ n) => n.toNat
  | _ => 0

theorem atOf_is {b : Nat} {w : World} {T : TypeId} {x : Value} {more : List Value} {p : Nat} (h : Is w b T (x :: .int .i64 p :: more)) : atOf b w = p := by
  unfold atOf
  rw [h.cell 1]
  simp

/-- In the loop: so far fs have come, and the cursor is at p. -/
def Fed (L : Lk.Bs) (p : Nat) (fs : List Lk.Fr) : Prop := Lk.all L = (fs ++ (Lk.all (L.drop p)).1, (Lk.all (L.drop p)).2) ∧ 3 * fs.length ≤ p

theorem Fed.start (L : Lk.Bs) : Fed L 0 [] := ⟨by simp, by simp⟩
theorem Fed.next {L d : Lk.Bs} {p k st n : Nat} {fs : List Lk.Fr} (h : Fed L p fs) (hn : Lk.nx (L.drop p) = .frame k st d n) : Fed L (p + n) (fs ++ [⟨k, st, d⟩]) := by
  have hb := Lk.nx_frame_bounds hn
  have h2 := h.2
  refine ⟨?_, by simp; omega⟩
  rw [h.1, Lk.all_frame hn, List.drop_drop]
  simp
theorem Fed.more {L : Lk.Bs} {p : Nat} {fs : List Lk.Fr} (h : Fed L p fs) (hn : Lk.nx (L.drop p) = .more) : Lk.all L = (fs, 0, L.drop p) := by
  rw [h.1, Lk.all_more hn]; simp
theorem Fed.err {L : Lk.Bs} {p e : Nat} {fs : List Lk.Fr} (h : Fed L p fs) (hn : Lk.nx (L.drop p) = .err e) : Lk.all L = (fs, e, []) := by
  rw [h.1, Lk.all_err hn]; simp

theorem extract_end (S : ByteArray) (p : Nat) : S.extract p S.size = ⟨(S.data.toList.drop p).toArray⟩ := by
  have e := extract_list S p S.size
  rw [List.take_of_length_le (by rw [List.length_drop, ← size_list]; omega)] at e
  rw [← e]

theorem cells_three (w : World) (x y z : Value) (T : TypeId) : ∀ j u, [x, y, z][j]? = some u → (w.alloc (.cells #[x, y, z] T)).cell? ((⟨w.heap.size, 0, none⟩ : Addr).add j) = some u := by
  intro j u hu
  have hplain : (⟨w.heap.size, 0, none⟩ : Addr).add j = ⟨w.heap.size, j, none⟩ := by unfold Addr.add; split <;> simp_all
  rw [hplain]
  have := (Is.new w T [x, y, z]).cell j
  rw [← hu]
  exact this

set_option maxHeartbeats 1000000 in
set_option maxRecDepth 100000 in
theorem feed_ok {T : TypeId} {more : List Value} (b : Nat) (s t : ByteArray) (w : World) (hsz : s.size + t.size ≤ 2 ^ 40)
    (hI : Is w b T (.string s :: .int .i64 0 :: .int .i64 0 :: more)) :
    Calls Tryz.prog 48 #[.pointer (some ⟨b, 0, none⟩), .string t] w fun e w' =>
      ∃ v, e = .returned (.tuple #[v, .int .i64 ((Lk.all (s.data.toList ++ t.data.toList)).2.1 : Int)])
        ∧ w'.ownsRow w.heap.size 79 3 v (Lk.all (s.data.toList ++ t.data.toList)).1.length (framesV (Lk.all (s.data.toList ++ t.data.toList)).1)
        ∧ Is w' b T (.string ⟨(Lk.all (s.data.toList ++ t.data.toList)).2.2.toArray⟩ :: .int .i64 0 :: .int .i64 ((Lk.all (s.data.toList ++ t.data.toList)).2.1 : Int) :: more)
        ∧ Turns b w w' := by
  have hSl : (s ++ t).data.toList = s.data.toList ++ t.data.toList := by simp
  have hSz : (s ++ t).size = s.size + t.size := by simp
  have hadd : s.size + t.size ≤ 9223372036854775807 := by omega
  rw [← hSl]
  clear hSl
  have c0 : w.cell? ⟨b, 0, none⟩ = some (.string s) := hI.cell 0
  have c2 : w.cell? ⟨b, 2, none⟩ = some (.int .i64 0) := hI.cell 2
  have f0 : w.frozen? ⟨b, 0, none⟩ = false := hI.free 0
  have hbl := hI.lt
  obtain ⟨i, hi, hz0, hz1, hz2⟩ := info_parts info_frame
  go_enter Tryz.func48, Tryz.ntmps48
  go_wp2_with fail
  have hI1 := hI.set 0 (.string (s ++ t))
  have hT1 := (Turns.refl b w).set 0 (.string (s ++ t))
  generalize hSS : (s ++ t) = S at *
  have HSS := hide hSS
  clear hSS
  go_loopw [6] (fun v wr => ∃ (p : Nat) (fs : List Lk.Fr), p ≤ S.size ∧ Fed S.data.toList p fs ∧ Is wr b T (.string S :: .int .i64 p :: .int .i64 0 :: more) ∧ wr.ownsRow w.heap.size 79 3 v fs.length (framesV fs) ∧ Turns b w wr) (fun _ wr => S.size - atOf b wr)
  case atStart => exact ⟨0, [], Nat.zero_le _, Fed.start _, hI1, World.ownsRow_nil _ _ _ _, hT1⟩
  case round =>
    obtain ⟨p, fs, hp, hfed, hIr, hown, hTr⟩ := hrel
    have d1 := hIr.cell 1
    simp only [List.getElem?_cons_zero, List.getElem?_cons_succ] at d1
    clear c0 c2 f0 hI1 hT1 hI
    go_wp2_with fail
    refine (frame_any b S p 0 _ (by unfold maxLen; omega) hp hIr).mono ?_
    rintro e w1 ⟨rfl, ⟨p', hp', hpast, hI1⟩, hT1⟩
    have hT2 := hTr.trans hT1
    have hown1 := kept_turns hown hbl hT1
    clear hown hT1 hTr d1
    cases hnx : Lk.nx (S.data.toList.drop p) with
    | more =>
      have HALL := hide (hfed.more hnx)
      have hlen := Lk.nx_more_len hnx
      rw [List.length_drop, ← size_list] at hlen
      simp only [frameVal]
      clear hnx hpast hfed
      go_wp2_with fail
      refine (keep_ok b S p' p 0 _ (by unfold maxLen; omega) hp (by omega) (hI1.alloc _)).mono ?_
      rintro e w2 ⟨rfl, hI2, hT3⟩
      have hown2 := kept_turns (hown1.alloc _) hbl hT3
      have hT4 := (hT2.alloc _).trans hT3
      clear hown1 hI1 hT2 hT3
      go_wp2_with fail
      go_ret2
      rw [unhide HSS, unhide HALL]
      rw [extract_end] at hI2
      exact ⟨_, rfl, hown2, hI2, hT4⟩
    | err e0 =>
      have HALL := hide (hfed.err hnx)
      have he0 := Lk.nx_err_pos hnx
      simp only [frameVal]
      clear hnx hpast hfed
      go_wp2_with fail
      refine (keep_bad b S p' p 0 e0 _ (by omega) (hI1.alloc _)).mono ?_
      rintro e w2 ⟨rfl, hI2, hT3⟩
      have hown2 := kept_turns (hown1.alloc _) hbl hT3
      have hT4 := (hT2.alloc _).trans hT3
      clear hown1 hI1 hT2 hT3
      go_wp2_with fail
      go_ret2
      rw [unhide HSS, unhide HALL]
      exact ⟨_, rfl, hown2, hI2, hT4⟩
    | frame k st d n =>
      have hpp := hpast k st d n hnx
      have hfed2 := hfed.next hnx
      have hbd := Lk.nx_frame_bounds hnx
      rw [List.length_drop, ← size_list] at hbd
      have hfl := hfed2.2
      rw [← hpp] at hfed2 hfl
      simp only [List.length_append, List.length_cons, List.length_nil] at hfl
      simp only [frameVal]
      clear hnx hpast hfed
      go_wp2_with (at_builtin; refine wpList_append_own _ rfl _ _ 118 rfl w.heap.size 79 i _ 3 32 Tryz.underlying118 hi hz0 hz1 hz2 rfl (by decide) _ fs.length (framesV fs) rfl ((hown1.alloc _).alloc _) ⟨w1.heap.size + 1, 0, none⟩ 1 1 [.int .i64 (k : Int), .int .i64 (st : Int), .string ⟨d.toArray⟩] rfl rfl ?hnews ?h1 ?h63 ?hby ?hba ?_)
      case hnews =>
        have e := cells_three (w1.alloc (.cells #[.int .i64 (k : Int), .int .i64 (st : Int), .string ⟨d.toArray⟩] 79)) (.int .i64 (k : Int)) (.int .i64 (st : Int)) (.string ⟨d.toArray⟩) 79
        simpa using e
      case h1 => simp [Value.oneCell']
      case h63 => unfold maxLen; omega
      case hby => omega
      case hba => have := hT2.size; simp; omega
      intro v2 w2 ho2 hg2 _
      have hrow : ∀ j, Value.ownBlock u6 = some j → w.heap.size ≤ j := fun j hj => (hown1.lt j hj).1
      have hI3 := ((hI1.alloc (.cells #[.int .i64 (k : Int), .int .i64 (st : Int), .string ⟨d.toArray⟩] 79)).alloc (.cells #[.int .i64 (k : Int), .int .i64 (st : Int), .string ⟨d.toArray⟩] 79)).grown hg2 (fun e => by have := hrow b e.symm; omega)
      have hT3 := ((hT2.alloc (.cells #[.int .i64 (k : Int), .int .i64 (st : Int), .string ⟨d.toArray⟩] 79)).alloc (.cells #[.int .i64 (k : Int), .int .i64 (st : Int), .string ⟨d.toArray⟩] 79)).grownNew hg2 hrow
      have e3 := framesV_snoc fs ⟨k, st, d⟩
      rw [e3] at ho2
      have HPP := hide hpp
      clear hpp e3 hI1 hT2 hown1 hg2 hrow
      go_wp2_with fail
      go_roundw
      case rel => exact ⟨p', fs ++ [⟨k, st, d⟩], hp', hfed2, hI3, by simpa using ho2, hT3⟩
      case measure =>
        rw [atOf_is hI3, atOf_is hIr]
        have := unhide HPP
        omega

/-- Behind an error nothing is read. -/
theorem feed_bad {T : TypeId} {more : List Value} (b : Nat) (s t : ByteArray) (f : Int) (w : World) (hf : f ≠ 0)
    (hI : Is w b T (.string s :: .int .i64 0 :: .int .i64 f :: more)) :
    Calls Tryz.prog 48 #[.pointer (some ⟨b, 0, none⟩), .string t] w fun e w' =>
      e = .returned (.tuple #[.slice none 0 0, .int .i64 f]) ∧ ∃ n, w' = w.drewN n := by
  have c2 : w.cell? ⟨b, 2, none⟩ = some (.int .i64 f) := hI.cell 2
  have hf' : (f != 0) = true := by rw [bne_iff_ne]; exact hf
  clear hI hf
  go_enter Tryz.func48, Tryz.ntmps48
  go_wp2_with fail
  go_quiet (fail)
  go_wp2_with fail
  go_ret2
  exact ⟨rfl, _, rfl⟩

end Go.Proofs.YtbkpdapagfjmmaaGreatDoor

/-
  Walks: what is asked of a frame; Pack, the program's.
-/
namespace Go.Proofs.YtbkpdapagfjmmaaGreatDoor
open Go.RowKit

theorem Is.three {w : World} {b : Nat} {T : TypeId} {x y z : Value} (h : Is w b T [x, y, z]) : w.cell? ⟨b, 0, none⟩ = some x ∧ w.cell? ⟨b, 1, none⟩ = some y ∧ w.cell? ⟨b, 2, none⟩ = some z := ⟨h.cell 0, h.cell 1, h.cell 2⟩

set_option maxHeartbeats 400000 in
set_option maxRecDepth 100000 in
theorem askFrame_any (k st : Int) (s : ByteArray) (w : World) (hs : s.size ≤ maxLen) :
    Calls Tryz.prog 98 #[.agg #[.int .i64 k, .int .i64 st, .string s]] w fun e w' => e = .returned (.int .i64 (Lk.packErr k st s.data.toList)) ∧ Below w.heap.size w w' := by
  have hs' := hs
  unfold maxLen at hs'
  have hb0 : Below w.heap.size w (w.alloc (.cells #[.int .i64 k, .int .i64 st, .string s] 79)) := (Below.refl _ _).alloc (Nat.le_refl _) _
  have hI0 := Is.new w 79 [.int .i64 k, .int .i64 st, .string s]
  by_cases hk : k < 0 ∨ 7 < k
  · have hp : Lk.packErr k st s.data.toList = 3 := by rw [Lk.packErr, if_pos hk]
    have hke : Lk.kindErr k = 3 := by rw [Lk.kindErr, if_pos hk]
    rw [hp]
    have HK := hide hke
    clear hp hke
    go_enter Tryz.func98, Tryz.ntmps98
    go_wp2_with fail
    refine (askKind_any k _).mono ?_
    rw [unhide HK]
    rintro e w1 ⟨rfl, rfl⟩
    go_wp2_with fail
    go_ret
    exact ⟨rfl, hb0⟩
  have hke : Lk.kindErr k = 0 := by rw [Lk.kindErr, if_neg hk]
  have HK := hide hke
  have h0 : 0 ≤ k := by omega
  have h7 : k ≤ 7 := by omega
  clear hke
  by_cases hst : st < 0 ∨ 268435455 < st
  · have hp : Lk.packErr k st s.data.toList = 2 := by rw [Lk.packErr, if_neg hk, if_pos hst]
    rw [hp]
    clear hp hk
    have hnum : (decide (0 ≤ st) && decide (st ≤ 268435455)) = false := by
      rcases hst with h | h
      · rw [decide_eq_false (by omega)]; rfl
      · rw [decide_eq_false (by omega : ¬ st ≤ 268435455), Bool.and_false]
    clear hst
    go_enter Tryz.func98, Tryz.ntmps98
    go_wp2_with fail
    refine (askKind_any k _).mono ?_
    rw [unhide HK]
    rintro e w1 ⟨rfl, rfl⟩
    go_wp2_with fail
    refine (isNumber_any st _).mono ?_
    rw [hnum]
    rintro e w1 ⟨rfl, rfl⟩
    go_wp2_with fail
    go_ret
    exact ⟨rfl, hb0⟩
  have hs0 : 0 ≤ st := by omega
  have hs1 : st ≤ 268435455 := by omega
  go_enter Tryz.func98, Tryz.ntmps98
  go_wp2_with fail
  refine (askKind_any k _).mono ?_
  rw [unhide HK]
  rintro e w1 ⟨rfl, rfl⟩
  have hnum : (decide (0 ≤ st) && decide (st ≤ 268435455)) = true := by simp [hs0, hs1]
  go_wp2_with fail
  refine (isNumber_any st _).mono ?_
  rw [hnum]
  rintro e w1 ⟨rfl, rfl⟩
  clear hnum
  go_wp2_with fail
  refine (askStream_any k st h0 h7 hs0 hs1 _).mono ?_
  rintro e w1 ⟨rfl, hb1⟩
  have hbw1 := hb0.trans (hb1.mono (by simp))
  have hI1 := hI0.below hb1 (by simp)
  obtain ⟨c0, c1, c2⟩ := hI1.three
  by_cases hsf : Lk.streamFits k st = false
  · have hp : Lk.packErr k st s.data.toList = 4 := by rw [Lk.packErr, if_neg hk, if_neg hst, if_pos hsf]
    have hse : Lk.streamErr k st = 4 := by rw [Lk.streamErr, if_pos hsf]
    rw [hse]
    have HP := hide hp
    clear hp hse hsf hk hst hb0 hI0 hb1 hI1
    go_wp2_with fail
    go_ret
    exact ⟨ret_int (unhide HP).symm, hbw1⟩
  have hse : Lk.streamErr k st = 0 := by rw [Lk.streamErr, if_neg hsf]
  rw [hse]
  clear hse
  have hlen : ((s.size : Nat) : Int) = (s.data.toList.length : Int) := by rw [size_list]
  have hple : ∀ x, Lk.lengthErr k s.size = x → x ≠ 0 → Lk.packErr k st s.data.toList = x := by
    intro x hx hx0
    rw [Lk.packErr, if_neg hk, if_neg hst, if_neg hsf]
    rw [Lk.lengthErr, hlen] at hx
    by_cases hL : 64 < s.data.toList.length
    · rw [if_pos hL]
      rw [if_pos (by omega)] at hx
      exact hx
    · rw [if_neg hL]
      rw [if_neg (by omega)] at hx
      by_cases hf : Lk.lengthFits k s.data.toList.length = false
      · rw [if_pos hf]; rw [if_pos hf] at hx; exact hx
      · rw [if_neg hf] at hx; omega
  have hppe : Lk.lengthErr k s.size = 0 → Lk.packErr k st s.data.toList = Lk.payloadErr k s.data.toList := by
    intro hx
    rw [Lk.packErr, if_neg hk, if_neg hst, if_neg hsf]
    rw [Lk.lengthErr, hlen] at hx
    by_cases hL : 64 < s.data.toList.length
    · rw [if_pos (by omega)] at hx; omega
    · rw [if_neg hL]
      rw [if_neg (by omega)] at hx
      by_cases hf : Lk.lengthFits k s.data.toList.length = false
      · rw [if_pos hf] at hx; omega
      · rw [if_neg hf, Lk.payloadErr]
  have HA := hide hple
  have HB := hide hppe
  clear hple hppe hlen hsf hk hst hb0 hI0 hb1
  go_wp2_with fail
  refine (askLength_any k _ h0 h7 (by omega) _).mono ?_
  rintro e w2 ⟨rfl, hb2⟩
  have hbw2 := hbw1.trans (hb2.mono hbw1.size)
  have hI2 := hI1.below hb2 hI1.lt
  clear c0 c1 c2
  obtain ⟨c0, c1, c2⟩ := hI2.three
  generalize hle : Lk.lengthErr k s.size = le
  have HL := hide hle
  clear hle hb2 hI1 hbw1
  by_cases hz : le = 0
  · subst hz
    go_wp2_with fail
    refine (askPayload_any k s _ hs).mono ?_
    rintro e w3 ⟨rfl, hb3⟩
    have hbw3 := hbw2.trans (hb3.mono hbw2.size)
    clear hb3 c0 c1 c2
    have HE := hide (unhide HB (unhide HL))
    go_wp2_with fail
    go_ret
    exact ⟨ret_int (unhide HE).symm, hbw3⟩
  · have hne : (le != 0) = true := by rw [bne_iff_ne]; exact hz
    have HE := hide (unhide HA le (unhide HL) hz)
    clear hz
    go_wp2_with fail
    go_ret
    exact ⟨ret_int (unhide HE).symm, hbw2⟩

end Go.Proofs.YtbkpdapagfjmmaaGreatDoor

/-
  Walks: Pack, the program's.
-/
namespace Go.Proofs.YtbkpdapagfjmmaaGreatDoor
open Go.RowKit

theorem ret_pack {a b : ByteArray} {x y : Int} (h : a = b) (h' : x = y) : Ending.returned (.tuple #[.string a, .int .i64 x]) = .returned (.tuple #[.string b, .int .i64 y]) := by rw [h, h']

theorem pack_len (m n : Nat) (s : ByteArray) : (Lk.wire n).length + (Lk.wire s.size).length + 1 + s.size = (Lk.packed m n s.data.toList).length := by
  rw [Lk.packed, Int.toNat_natCast, Int.toNat_natCast, ← size_list, List.length_cons, List.length_append, List.length_append, ← size_list]
  omega

/-- What Pack answers. -/
def packStr (k st : Int) (l : Lk.Bs) : ByteArray := if Lk.packErr k st l = 0 then ⟨(Lk.packed k st l).toArray⟩ else ⟨#[]⟩

set_option maxHeartbeats 400000 in
set_option maxRecDepth 100000 in
theorem pack_no (k st : Int) (s : ByteArray) (w : World) (hs : s.size ≤ maxLen) (hne : Lk.packErr k st s.data.toList ≠ 0) :
    Calls Tryz.prog 55 #[.agg #[.int .i64 k, .int .i64 st, .string s]] w fun e w' => e = .returned (.tuple #[.string (packStr k st s.data.toList), .int .i64 (Lk.packErr k st s.data.toList)]) ∧ Below w.heap.size w w' := by
  have hps : packStr k st s.data.toList = ⟨#[]⟩ := by rw [packStr, if_neg hne]
  have HA := hide (fun w => askFrame_any k st s w hs)
  rw [hps]
  generalize Lk.packErr k st s.data.toList = pe at *
  have hpe : (pe != 0) = true := by rw [bne_iff_ne]; exact hne
  clear hps hne
  go_enter Tryz.func55, Tryz.ntmps55
  go_wp2_with fail
  refine (unhide HA _).mono ?_
  rintro e w1 ⟨rfl, hb1⟩
  have hbw1 := ((Below.refl w.heap.size w).alloc (Nat.le_refl _) _).trans (hb1.mono (by simp))
  clear hb1
  go_wp2_with fail
  go_ret2
  exact ⟨rfl, hbw1⟩

set_option maxHeartbeats 400000 in
set_option maxRecDepth 100000 in
theorem pack_yes (k st : Int) (s : ByteArray) (w : World) (hs : s.size ≤ maxLen) (he : Lk.packErr k st s.data.toList = 0) (h0 : 0 ≤ k) (h7 : k ≤ 7) (hs0 : 0 ≤ st) (hs1 : st ≤ 268435455) (hl : s.size ≤ 64) :
    Calls Tryz.prog 55 #[.agg #[.int .i64 k, .int .i64 st, .string s]] w fun e w' => e = .returned (.tuple #[.string (packStr k st s.data.toList), .int .i64 (Lk.packErr k st s.data.toList)]) ∧ Below w.heap.size w w' := by
  have hps : packStr k st s.data.toList = ⟨(Lk.packed k st s.data.toList).toArray⟩ := by rw [packStr, if_pos he]
  have HA := hide (fun w => askFrame_any k st s w hs)
  have hI0 := Is.new w 79 [.int .i64 k, .int .i64 st, .string s]
  have hb0 : Below w.heap.size w (w.alloc (.cells #[.int .i64 k, .int .i64 st, .string s] 79)) := (Below.refl _ _).alloc (Nat.le_refl _) _
  rw [hps, he]
  rw [he] at HA
  clear hps
  have HE := hide he
  clear he
  obtain ⟨n, rfl⟩ := Int.eq_ofNat_of_zero_le hs0
  obtain ⟨m, rfl⟩ := Int.eq_ofNat_of_zero_le h0
  go_enter Tryz.func55, Tryz.ntmps55
  go_wp2_with fail
  refine (unhide HA _).mono ?_
  rintro e w1 ⟨rfl, hb1⟩
  have hI1 := hI0.below hb1 (by simp)
  have hbw1 := hb0.trans (hb1.mono (by simp))
  obtain ⟨c0, c1, c2⟩ := hI1.three
  have hz := hI1.lt
  clear hb0 hI0 hb1
  go_wp2_with fail
  refine (appendFrame_any w1.heap.size _ [] m n s _ (Nat.le_refl _) (World.ownsRow_nil _ _ _ _) (by simp) (by omega) (by omega) hl).mono ?_
  rintro e w2 ⟨v2, rfl, ho2, hb2, _⟩
  rw [List.nil_append] at ho2
  have hcv := owned_string ho2 (by simp [Lk.packed])
  have hbw2 := hbw1.trans (hb2.mono hbw1.size)
  clear hb2 ho2 c0 c1 c2
  go_wp2_with fail
  go_ret2
  exact ⟨rfl, hbw2⟩

theorem packErr_zero {k st : Int} {l : Lk.Bs} (h : Lk.packErr k st l = 0) : 0 ≤ k ∧ k ≤ 7 ∧ 0 ≤ st ∧ st ≤ 268435455 ∧ l.length ≤ 64 ∧ Lk.streamFits k st = true ∧ Lk.lengthFits k l.length = true ∧ Lk.payloadFits k l = true := by
  unfold Lk.packErr at h
  by_cases h1 : k < 0 ∨ 7 < k
  · rw [if_pos h1] at h; omega
  rw [if_neg h1] at h
  by_cases h2 : st < 0 ∨ 268435455 < st
  · rw [if_pos h2] at h; omega
  rw [if_neg h2] at h
  by_cases h3 : Lk.streamFits k st = false
  · rw [if_pos h3] at h; omega
  rw [if_neg h3] at h
  by_cases h4 : 64 < l.length
  · rw [if_pos h4] at h; omega
  rw [if_neg h4] at h
  by_cases h5 : Lk.lengthFits k l.length = false
  · rw [if_pos h5] at h; omega
  rw [if_neg h5] at h
  by_cases h6 : Lk.payloadFits k l = false
  · rw [if_pos h6] at h; omega
  simp only [Bool.not_eq_false] at h3 h5 h6
  exact ⟨by omega, by omega, by omega, by omega, by omega, h3, h5, h6⟩

theorem pack_any (k st : Int) (s : ByteArray) (w : World) (hs : s.size ≤ maxLen) :
    Calls Tryz.prog 55 #[.agg #[.int .i64 k, .int .i64 st, .string s]] w fun e w' => e = .returned (.tuple #[.string (packStr k st s.data.toList), .int .i64 (Lk.packErr k st s.data.toList)]) ∧ Below w.heap.size w w' := by
  by_cases h : Lk.packErr k st s.data.toList = 0
  · obtain ⟨h0, h7, h1, h2, h3, _⟩ := packErr_zero h
    exact pack_yes k st s w hs h h0 h7 h1 h2 (by rw [size_list]; exact h3)
  · exact pack_no k st s w hs h

end Go.Proofs.YtbkpdapagfjmmaaGreatDoor

/-
  The statement Returned: its walk.
-/
namespace Go.Proofs.YtbkpdapagfjmmaaGreatDoor
open Go.RowKit

theorem num_any (e : Int) (w : World) : Calls Tryz.prog 18 #[.int .i64 e] w fun r w' => r = .returned (.int .i64 e) ∧ w' = w := by
  go_enter Tryz.func18, Tryz.ntmps18
  go_wp2
  go_ret
  exact ⟨rfl, rfl⟩

theorem newReader_any (w : World) : Calls Tryz.prog 51 #[] w fun r w' => r = .returned (.pointer (some ⟨w.heap.size, 0, none⟩)) ∧ w' = w.alloc (.cells #[.string ⟨#[]⟩, .int .i64 0, .int .i64 0] 85) := by
  go_enter Tryz.func51, Tryz.ntmps51
  go_wp2
  go_ret
  exact ⟨rfl, rfl⟩

theorem bounded_any (c : Int) (h : Nat) (w : World) (hh : h ≤ 2 ^ 40) (_h1 : -9223372036854775808 ≤ c) (_h2 : c ≤ 9223372036854775807) :
    Calls Tryz.prog 11 #[.int .i64 c, .int .i64 h] w fun r w' => (∃ n : Nat, n ≤ h ∧ r = .returned (.int .i64 n)) ∧ w' = w := by
  have b1 : c.tmod (h + 1) < h + 1 := Int.tmod_lt_of_pos _ (by omega)
  have b2 : -(h + 1 : Int) < c.tmod (h + 1) := by
    have e1 := Int.neg_tmod c (h + 1)
    have e2 := Int.tmod_lt_of_pos (-c) (show (0 : Int) < h + 1 by omega)
    omega
  by_cases h0 : c.tmod (h + 1) < 0
  · go_enter Tryz.func11, Tryz.ntmps11
    go_wp2
    go_ret
    exact ⟨⟨(c.tmod (h + 1) + h + 1).toNat, by omega, ret_int (by omega)⟩, rfl⟩
  · go_enter Tryz.func11, Tryz.ntmps11
    go_wp2
    go_ret
    exact ⟨⟨(c.tmod (h + 1)).toNat, by omega, ret_int (by omega)⟩, rfl⟩

theorem packErr_ne {k st : Int} {l : Lk.Bs} (h : Lk.packErr k st l ≠ 0) : k < 0 ∨ (0 ≤ k ∧ 7 < k) ∨ (0 ≤ k ∧ k ≤ 7 ∧ st < 0) ∨ (0 ≤ k ∧ k ≤ 7 ∧ 0 ≤ st ∧ 268435455 < st) ∨ (0 ≤ k ∧ k ≤ 7 ∧ 0 ≤ st ∧ st ≤ 268435455 ∧ 64 < l.length)
    ∨ (0 ≤ k ∧ k ≤ 7 ∧ 0 ≤ st ∧ st ≤ 268435455 ∧ l.length ≤ 64 ∧ k ≠ 0) ∨ (k = 0 ∧ st = 0 ∧ l.length ≤ 64) := by
  by_cases h1 : k = 0 ∧ 0 < st ∧ st ≤ 268435455 ∧ l.length ≤ 64
  · obtain ⟨rfl, h2, h3, h4⟩ := h1
    exfalso
    apply h
    unfold Lk.packErr
    rw [if_neg (by omega), if_neg (by omega), if_neg (by simp [Lk.streamFits]; omega), if_neg (by omega), if_neg (by simp [Lk.lengthFits]), if_neg (by simp [Lk.payloadFits])]
  · omega

end Go.Proofs.YtbkpdapagfjmmaaGreatDoor
