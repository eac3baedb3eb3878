import Derived.Test.YtbkpdapagfjmmaaGreatDoorA15
import Derived.Test.YtbkpdapagfjmmaaGreatDoorA17
set_option linter.unusedVariables false
set_option maxRecDepth 100000
set_option maxHeartbeats 16000000
namespace Go.Proofs.YtbkpdapagfjmmaaGreatDoor
open Go.RowKit
def aZ (fs : List Lk.Fr) : List Value := fs.flatMap fun f => [.int .i64 (f.k : Int), .int .i64 (f.st : Int), .string ⟨f.d.toArray⟩]
theorem qo (fs : List Lk.Fr) (f : Lk.Fr) : aZ fs ++ [.int .i64 (f.k : Int), .int .i64 (f.st : Int), .string ⟨f.d.toArray⟩] = aZ (fs ++ [f]) := by
 simp [aZ]
theorem F5 : (Tryz.prog.info? 79).map (fun i => (i.zero, i.size, i.bytes)) = some (some (.agg #[.int .i64 0, .int .i64 0, .string ⟨#[]⟩]), 3, 32) := by kernel_rfl
def TP (b : Nat) (w : World) : Nat := match w.cell? ⟨b, 1, none⟩ with
 | some (.int _ n) => n.toNat
 | _ => 0
theorem Jh {b : Nat} {w : World} {T : TypeId} {x : Value} {more : List Value} {p : Nat} (h : Is w b T (x :: .int .i64 p :: more)) : TP b w = p := by
 unfold TP
 rw [h.cell 1]
 simp
def Fed (L : Lk.Bs) (p : Nat) (fs : List Lk.Fr) : Prop := Lk.all L = (fs ++ (Lk.all (L.drop p)).1, (Lk.all (L.drop p)).2) ∧ 3 * fs.length <= p
theorem Fed.start (L : Lk.Bs) : Fed L 0 [] := ⟨by simp, by simp⟩
theorem Fed.next {L d : Lk.Bs} {p k st n : Nat} {fs : List Lk.Fr} (h : Fed L p fs) (hn : Lk.nx (L.drop p) = .frame k st d n) : Fed L (p + n) (fs ++ [⟨k, st, d⟩]) := by
 have hb := Lk.aV hn
 have h2 := h.2
 refine ⟨?_, by simp; omega⟩
 rw [h.1, Lk.ja hn, List.drop_drop]
 simp
theorem Fed.more {L : Lk.Bs} {p : Nat} {fs : List Lk.Fr} (h : Fed L p fs) (hn : Lk.nx (L.drop p) = .more) : Lk.all L = (fs, 0, L.drop p) := by
 rw [h.1, Lk.iU hn]; simp
theorem Fed.err {L : Lk.Bs} {p e : Nat} {fs : List Lk.Fr} (h : Fed L p fs) (hn : Lk.nx (L.drop p) = .err e) : Lk.all L = (fs, e, []) := by
 rw [h.1, Lk.mW hn]; simp
theorem sH (S : ByteArray) (p : Nat) : S.extract p S.size = ⟨(S.data.toList.drop p).toArray⟩ := by
 have e := dI S p S.size
 rw [List.take_of_length_le (by rw [List.length_drop, <- af]; omega)] at e
 rw [<- e]
theorem sJ (w : World) (x y z : Value) (T : TypeId) : ∀ j u, [x, y, z][j]? = some u -> (w.alloc (.cells #[x, y, z] T)).cell? ((⟨w.heap.size, 0, none⟩ : Addr).add j) = some u := by
 intro j u hu
 have hplain : (⟨w.heap.size, 0, none⟩ : Addr).add j = ⟨w.heap.size, j, none⟩ := by unfold Addr.add; split <;> simp_all
 rw [hplain]
 have := (Is.new w T [x, y, z]).cell j
 rw [<- hu]
 exact this
theorem xP {T : TypeId} {more : List Value} (b : Nat) (s t : ByteArray) (w : World) (hsz : s.size + t.size <= 2 ^ 40)
 (hI : Is w b T (.string s :: .int .i64 0 :: .int .i64 0 :: more)) :
 Calls Tryz.prog 48 #[.pointer (some ⟨b, 0, none⟩), .string t] w fun e w' =>
  ∃ v, e = .returned (.tuple #[v, .int .i64 ((Lk.all (s.data.toList ++ t.data.toList)).2.1 : Int)])
   ∧ w'.ownsRow w.heap.size 79 3 v (Lk.all (s.data.toList ++ t.data.toList)).1.length (aZ (Lk.all (s.data.toList ++ t.data.toList)).1)
   ∧ Is w' b T (.string ⟨(Lk.all (s.data.toList ++ t.data.toList)).2.2.toArray⟩ :: .int .i64 0 :: .int .i64 ((Lk.all (s.data.toList ++ t.data.toList)).2.1 : Int) :: more)
   ∧ Turns b w w' := by
 have hSl : (s ++ t).data.toList = s.data.toList ++ t.data.toList := by simp
 have hSz : (s ++ t).size = s.size + t.size := by simp
 have hadd : s.size + t.size <= 9223372036854775807 := by omega
 rw [<- hSl]
 clear hSl
 have c0 : w.cell? ⟨b, 0, none⟩ = some (.string s) := hI.cell 0
 have c2 : w.cell? ⟨b, 2, none⟩ = some (.int .i64 0) := hI.cell 2
 have f0 : w.frozen? ⟨b, 0, none⟩ = false := hI.free 0
 have hbl := hI.lt
 obtain ⟨i, hi, hz0, hz1, hz2⟩ := info_parts F5
 go_enter Tryz.func48, Tryz.ntmps48
 go_wp2_with fail
 have hI1 := hI.set 0 (.string (s ++ t))
 have hT1 := (Turns.refl b w).set 0 (.string (s ++ t))
 generalize hSS : (s ++ t) = S at *
 have HSS := hide hSS
 clear hSS
 go_loopw [6] (fun v wr => ∃ (p : Nat) (fs : List Lk.Fr), p <= S.size ∧ Fed S.data.toList p fs ∧ Is wr b T (.string S :: .int .i64 p :: .int .i64 0 :: more) ∧ wr.ownsRow w.heap.size 79 3 v fs.length (aZ fs) ∧ Turns b w wr) (fun _ wr => S.size - TP b wr)
 case atStart => exact ⟨0, [], Nat.zero_le _, Fed.start _, hI1, World.ownsRow_nil _ _ _ _, hT1⟩
 case round =>
  obtain ⟨p, fs, hp, F6, hIr, hown, hTr⟩ := hrel
  have d1 := hIr.cell 1
  simp only [List.getElem?_cons_zero, List.getElem?_cons_succ] at d1
  clear c0 c2 f0 hI1 hT1 hI
  go_wp2_with fail
  refine (Jg b S p 0 _ (by unfold maxLen; omega) hp hIr).mono ?_
  rintro e w1 ⟨rfl, ⟨p', hp', hpast, hI1⟩, hT1⟩
  have hT2 := hTr.trans hT1
  have hown1 := iw hown hbl hT1
  clear hown hT1 hTr d1
  cases hnx : Lk.nx (S.data.toList.drop p) with
  | more =>
    have Ji := hide (F6.more hnx)
    have hlen := Lk.mV hnx
    rw [List.length_drop, <- af] at hlen
    simp only [aS]
    clear hnx hpast F6
    go_wp2_with fail
    refine (Pe b S p' p 0 _ (by unfold maxLen; omega) hp (by omega) (hI1.alloc _)).mono ?_
    rintro e w2 ⟨rfl, hI2, hT3⟩
    have hown2 := iw (hown1.alloc _) hbl hT3
    have hT4 := (hT2.alloc _).trans hT3
    clear hown1 hI1 hT2 hT3
    go_wp2_with fail
    go_ret2
    rw [uh HSS, uh Ji]
    rw [sH] at hI2
    exact ⟨_, rfl, hown2, hI2, hT4⟩
  | err e0 =>
    have Ji := hide (F6.err hnx)
    have he0 := Lk.oO hnx
    simp only [aS]
    clear hnx hpast F6
    go_wp2_with fail
    refine (LM b S p' p 0 e0 _ (by omega) (hI1.alloc _)).mono ?_
    rintro e w2 ⟨rfl, hI2, hT3⟩
    have hown2 := iw (hown1.alloc _) hbl hT3
    have hT4 := (hT2.alloc _).trans hT3
    clear hown1 hI1 hT2 hT3
    go_wp2_with fail
    go_ret2
    rw [uh HSS, uh Ji]
    exact ⟨_, rfl, hown2, hI2, hT4⟩
  | frame k st d n =>
    have hpp := hpast k st d n hnx
    have F7 := F6.next hnx
    have hbd := Lk.aV hnx
    rw [List.length_drop, <- af] at hbd
    have hfl := F7.2
    rw [<- hpp] at F7 hfl
    simp only [List.length_append, List.length_cons, List.length_nil] at hfl
    simp only [aS]
    clear hnx hpast F6
    go_wp2_with (at_builtin; refine wpList_append_own _ rfl _ _ 118 rfl w.heap.size 79 i _ 3 32 Tryz.underlying118 hi hz0 hz1 hz2 rfl (by decide) _ fs.length (aZ fs) rfl ((hown1.alloc _).alloc _) ⟨w1.heap.size + 1, 0, none⟩ 1 1 [.int .i64 (k : Int), .int .i64 (st : Int), .string ⟨d.toArray⟩] rfl rfl ?hnews ?h1 ?h63 ?hby ?hba ?_)
    case hnews =>
     have e := sJ (w1.alloc (.cells #[.int .i64 (k : Int), .int .i64 (st : Int), .string ⟨d.toArray⟩] 79)) (.int .i64 (k : Int)) (.int .i64 (st : Int)) (.string ⟨d.toArray⟩) 79
     simpa using e
    case h1 => simp [Value.oneCell']
    case h63 => unfold maxLen; omega
    case hby => omega
    case hba => have := hT2.size; simp; omega
    intro v2 w2 ho2 hg2 _
    have hrow : ∀ j, Value.ownBlock u6 = some j -> w.heap.size <= j := fun j hj => (hown1.lt j hj).1
    have hI3 := ((hI1.alloc (.cells #[.int .i64 (k : Int), .int .i64 (st : Int), .string ⟨d.toArray⟩] 79)).alloc (.cells #[.int .i64 (k : Int), .int .i64 (st : Int), .string ⟨d.toArray⟩] 79)).grown hg2 (fun e => by have := hrow b e.symm; omega)
    have hT3 := ((hT2.alloc (.cells #[.int .i64 (k : Int), .int .i64 (st : Int), .string ⟨d.toArray⟩] 79)).alloc (.cells #[.int .i64 (k : Int), .int .i64 (st : Int), .string ⟨d.toArray⟩] 79)).qR hg2 hrow
    have e3 := qo fs ⟨k, st, d⟩
    rw [e3] at ho2
    have HPP := hide hpp
    clear hpp e3 hI1 hT2 hown1 hg2 hrow
    go_wp2_with fail
    go_roundw
    case rel => exact ⟨p', fs ++ [⟨k, st, d⟩], hp', F7, hI3, by simpa using ho2, hT3⟩
    case measure =>
     rw [Jh hI3, Jh hIr]
     have := uh HPP
     omega
theorem feed_bad {T : TypeId} {more : List Value} (b : Nat) (s t : ByteArray) (f : Int) (w : World) (hf : f ≠ 0)
 (hI : Is w b T (.string s :: .int .i64 0 :: .int .i64 f :: more)) :
 Calls Tryz.prog 48 #[.pointer (some ⟨b, 0, none⟩), .string t] w fun e w' =>
  e = .returned (.tuple #[.slice none 0 0, .int .i64 f]) ∧ ∃ n, w' = w.drewN n := by
 have c2 : w.cell? ⟨b, 2, none⟩ = some (.int .i64 f) := hI.cell 2
 have hf' : (f != 0) = true := by rw [bne_iff_ne]; exact hf
 clear hI hf
 go_enter Tryz.func48, Tryz.ntmps48
 go_wp2_with fail
 go_quiet (fail)
 go_wp2_with fail
 go_ret2
 exact ⟨rfl, _, rfl⟩
theorem Ce : (Tryz.prog.info? 66).map (fun i => (i.zero, i.size, i.bytes)) = some (some (.agg #[.int .i64 0, .int .i64 0, .string ⟨#[]⟩]), 3, 32) := by kernel_rfl
def Jj (b : Nat) (w : World) : Nat := match w.cell? ⟨b, 0, none⟩ with
 | some (.string s) => s.size
 | _ => 0
theorem zU {b : Nat} {w : World} {T : TypeId} {s : ByteArray} {z : Value} (h : Is w b T [.string s, z]) : Jj b w = s.size := by
 unfold Jj
 rw [h.cell 0]
 simp
theorem F8 (b : Nat) (s t : ByteArray) (w : World) (hsz : s.size + t.size <= 2 ^ 40)
 (hI : Is w b 54 [.string s, .int .i64 0]) :
 Calls Tryz.prog 21 #[.pointer (some ⟨b, 0, none⟩), .string t] w fun e w' =>
  ∃ v, e = .returned (.tuple #[v, .int .i64 ((Lk.all (s.data.toList ++ t.data.toList)).2.1 : Int)])
   ∧ w'.ownsRow w.heap.size 66 3 v (Lk.all (s.data.toList ++ t.data.toList)).1.length (aZ (Lk.all (s.data.toList ++ t.data.toList)).1)
   ∧ (∃ R : ByteArray, Is w' b 54 [.string R, .int .i64 ((Lk.all (s.data.toList ++ t.data.toList)).2.1 : Int)] ∧ ((Lk.all (s.data.toList ++ t.data.toList)).2.1 = 0 -> R.data.toList = (Lk.all (s.data.toList ++ t.data.toList)).2.2))
   ∧ Turns b w w' := by
 have hSl : (s ++ t).data.toList = s.data.toList ++ t.data.toList := by simp
 have hSz : (s ++ t).size = s.size + t.size := by simp
 have hadd : s.size + t.size <= 9223372036854775807 := by omega
 rw [<- hSl]
 clear hSl
 have c0 : w.cell? ⟨b, 0, none⟩ = some (.string s) := hI.cell 0
 have c1 : w.cell? ⟨b, 1, none⟩ = some (.int .i64 0) := hI.cell 1
 have f0 : w.frozen? ⟨b, 0, none⟩ = false := hI.free 0
 have hbl := hI.lt
 obtain ⟨i, hi, hz0, hz1, hz2⟩ := info_parts Ce
 go_enter Tryz.func21, Tryz.ntmps21
 go_wp2_with fail
 have hI1 := hI.set 0 (.string (s ++ t))
 have hT1 := (Turns.refl b w).set 0 (.string (s ++ t))
 generalize hSS : (s ++ t) = S at *
 have HSS := hide hSS
 clear hSS
 generalize hL : S.data.toList = L
 have HL := hide hL
 have hLl : L.length = S.size := by rw [<- hL, af]
 go_loopw [6] (fun v wr => ∃ (p : Nat) (fs : List Lk.Fr) (R : ByteArray), Hid (R.data.toList = L.drop p) ∧ R.size <= 2 ^ 40 ∧ Fed L p fs ∧ p <= L.length ∧ Is wr b 54 [.string R, .int .i64 0] ∧ wr.ownsRow w.heap.size 66 3 v fs.length (aZ fs) ∧ Turns b w wr) (fun _ wr => Jj b wr)
 case atStart => exact ⟨0, [], S, by rw [hL]; rfl, by omega, Fed.start _, Nat.zero_le _, hI1, World.ownsRow_nil _ _ _ _, hT1⟩
 case round =>
  clear hL hI1 hT1 hI c0 c1 f0
  obtain ⟨p, fs, R, HR, XP, F6, hp, hIr, hown, hTr⟩ := hrel
  have d0 := hIr.cell 0
  simp only [List.getElem?_cons_zero] at d0
  go_wp2_with fail
  refine (Cc R _ (by omega)).mono ?_
  rw [uh HR]
  rintro e w1 ⟨⟨a, b', c, n, e', rfl, hnext⟩, hb1⟩
  have hI1 := hIr.below hb1 hIr.lt
  have hT1 := hTr.below hb1
  have hown1 := iw hown hbl ((Turns.refl b _).below hb1)
  have hRl : R.size = L.length - p := by rw [af, uh HR, List.length_drop]
  have e0 := hI1.cell 0
  have e1 := hI1.cell 1
  have g0 := hI1.free 0
  have g1 := hI1.free 1
  simp only [List.getElem?_cons_zero, List.getElem?_cons_succ] at e0 e1
  have hlt := hI1.lt
  clear hown hTr d0 hb1
  rcases hnext with ⟨hx, rfl, rfl⟩ | ⟨k, hx, rfl, rfl⟩ | ⟨k, st, d, j, hx, rfl, rfl, rfl, rfl, rfl⟩
  . have Ji := hide (F6.more hx)
    clear hx F6 hRl
    go_wp2_with fail
    go_ret2
    rw [uh HSS, uh HL, uh Ji]
    exact ⟨_, rfl, (iw hown1 hbl ((Turns.refl b _).set 1 _)).alloc _, ⟨R, (hI1.set 1 _).alloc _, fun _ => uh HR⟩, (hT1.set 1 _).alloc _⟩
  . have Ji := hide (F6.err hx)
    have hk := Lk.oO hx
    have hk' : ((k : Int) != 0) = true := by rw [bne_iff_ne]; omega
    clear hx F6 hRl
    go_wp2_with fail
    go_ret2
    rw [uh HSS, uh HL, uh Ji]
    exact ⟨_, rfl, (iw hown1 hbl ((Turns.refl b _).set 1 _)).alloc _, ⟨R, (hI1.set 1 _).alloc _, fun h => absurd h hk⟩, (hT1.set 1 _).alloc _⟩
  . have hbd := Lk.aV hx
    rw [List.length_drop] at hbd
    have F7 := F6.next hx
    have hfl := F7.2
    simp only [List.length_append, List.length_cons, List.length_nil] at hfl
    have hj0 : ((j : Int) == 0) = false := by rw [beq_eq_false_iff_ne]; omega
    have hjs : (j : Int) <= R.size := by omega
    have hRd : (R.extract j R.size).data.toList = L.drop (p + j) := by
     rw [sH, <- List.drop_drop, <- uh HR]
    have hRz : (R.extract j R.size).size = R.size - j := by rw [ByteArray.size_extract]; omega
    have HRD := hide hRd
    have HRZ := hide hRz
    have HRL := hide hRl
    clear hRd hRz hRl hx F6
    go_wp2_with (at_builtin; refine wpList_append_own _ rfl _ _ 59 rfl w.heap.size 66 i _ 3 32 Tryz.underlying59 hi hz0 hz1 hz2 rfl (by decide) _ fs.length (aZ fs) rfl ((hown1.alloc _).alloc _) ⟨w1.heap.size + 1, 0, none⟩ 1 1 [.int .i64 (k : Int), .int .i64 (st : Int), .string ⟨d.toArray⟩] rfl rfl ?hnews ?h1 ?h63 ?hby ?hba ?_)
    case hnews =>
     have e := sJ (w1.alloc (.cells #[.int .i64 (k : Int), .int .i64 (st : Int), .string ⟨d.toArray⟩] 66)) (.int .i64 (k : Int)) (.int .i64 (st : Int)) (.string ⟨d.toArray⟩) 66
     simpa using e
    case h1 => simp [Value.oneCell']
    case h63 => unfold maxLen; omega
    case hby => omega
    case hba => have := hT1.size; simp; omega
    intro v2 w2 ho2 hg2 _
    have hrow : ∀ j, Value.ownBlock u6 = some j -> w.heap.size <= j := fun j hj => (hown1.lt j hj).1
    have hI3 := ((hI1.alloc (.cells #[.int .i64 (k : Int), .int .i64 (st : Int), .string ⟨d.toArray⟩] 66)).alloc (.cells #[.int .i64 (k : Int), .int .i64 (st : Int), .string ⟨d.toArray⟩] 66)).grown hg2 (fun e => by have := hrow b e.symm; omega)
    have hT3 := ((hT1.alloc (.cells #[.int .i64 (k : Int), .int .i64 (st : Int), .string ⟨d.toArray⟩] 66)).alloc (.cells #[.int .i64 (k : Int), .int .i64 (st : Int), .string ⟨d.toArray⟩] 66)).qR hg2 hrow
    have e3 := qo fs ⟨k, st, d⟩
    rw [e3] at ho2
    clear e3 hI1 hT1 hown1 hg2 hrow e0 e1 g0 g1
    have e0 := hI3.cell 0
    have g0 := hI3.free 0
    simp only [List.getElem?_cons_zero] at e0
    go_wp2_with fail
    go_roundw
    case rel => exact ⟨p + j, fs ++ [⟨k, st, d⟩], R.extract j R.size, HRD, by have := uh HRZ; omega, F7, by omega, hI3.set 0 _, by simpa using iw ho2 hbl ((Turns.refl b _).set 0 _), hT3.set 0 _⟩
    case measure =>
     rw [zU (hI3.set 0 _), zU hIr]
     have := uh HRZ
     omega
theorem Cf (b : Nat) (s t : ByteArray) (f : Int) (w : World) (hf : f ≠ 0)
 (hI : Is w b 54 [.string s, .int .i64 f]) :
 Calls Tryz.prog 21 #[.pointer (some ⟨b, 0, none⟩), .string t] w fun e w' =>
  e = .returned (.tuple #[.slice none 0 0, .int .i64 f]) ∧ ∃ n, w' = w.drewN n := by
 have c1 : w.cell? ⟨b, 1, none⟩ = some (.int .i64 f) := hI.cell 1
 have hf' : (f != 0) = true := by rw [bne_iff_ne]; exact hf
 clear hI hf
 go_enter Tryz.func21, Tryz.ntmps21
 go_wp2_with fail
 go_quiet (fail)
 go_wp2_with fail
 go_ret2
 exact ⟨rfl, _, rfl⟩
theorem F9 (fs : List Lk.Fr) : ∀ (i : Nat) (h : i < fs.length), (aZ fs)[i * 3]? = some (.int .i64 (fs[i].k : Int)) ∧ (aZ fs)[i * 3 + 1]? = some (.int .i64 (fs[i].st : Int)) ∧ (aZ fs)[i * 3 + 2]? = some (.string ⟨fs[i].d.toArray⟩) := by
 induction fs with
 | nil => intro i h; simp at h
 | cons f fs ih =>
   intro i h
   cases i with
   | zero => simp [aZ]
   | succ i =>
     have := ih i (by simpa using h)
     simp only [aZ, List.flatMap_cons, List.getElem_cons_succ] at this ⊢
     have e : (i + 1) * 3 = i * 3 + 3 := by omega
     rw [e]
     simpa using this
theorem jF {w : World} {B : Nat} {T : TypeId} {v : Value} {fs : List Lk.Fr} (h : w.ownsRow B T 3 v fs.length (aZ fs)) :
 (fs = [] ∧ v = .slice none 0 0) ∨ ∃ g cap, v = .slice (some ⟨g, 0, none⟩) fs.length cap ∧ B <= g ∧ g < w.heap.size ∧ fs.length <= cap ∧ ∀ i (h : i < fs.length), w.cell? ⟨g, i * 3, none⟩ = some (.int .i64 (fs[i].k : Int)) ∧ w.cell? ⟨g, i * 3 + 1, none⟩ = some (.int .i64 (fs[i].st : Int)) ∧ w.cell? ⟨g, i * 3 + 2, none⟩ = some (.string ⟨fs[i].d.toArray⟩) := by
 rcases h.2 with ⟨rfl, h0⟩ | ⟨g, cap, cur, rfl, hB, hg, hn, hc, hs, ht⟩
 . exact .inl ⟨List.eq_nil_of_length_eq_zero h0, rfl⟩
 . have hI : Is w g T cur.toList := by unfold Is; simpa using hg
   refine .inr ⟨g, cap, rfl, hB, hI.lt, hn, fun i hi => ?_⟩
   have e := F9 fs i hi
   have hc : ∀ j, j < fs.length * 3 -> w.cell? ⟨g, j, none⟩ = (aZ fs)[j]? := by
    intro j hj
    rw [hI.cell j, <- ht, List.getElem?_take_of_lt hj]
   rw [hc _ (by omega), hc _ (by omega), hc _ (by omega)]
   exact e
namespace Lk
theorem Ci : ∀ (l : Bs), 3 * (all l).1.length <= l.length := by
 intro l
 induction h : l.length using Nat.strongRecOn generalizing l with
 | _ n ih =>
   subst h
   cases hx : nx l with
   | more => rw [iU hx]; simp
   | err e => rw [mW hx]; simp
   | frame k st d n =>
     have hb := aV hx
     have := ih (l.drop n).length (by rw [List.length_drop]; omega) (l.drop n) rfl
     rw [ja hx]
     simp only [List.length_cons]
     rw [List.length_drop] at this
     omega
theorem lW : ∀ (l : Bs), (all l).2.1 = 0 -> (all l).2.2.length <= 72 := by
 intro l
 induction h : l.length using Nat.strongRecOn generalizing l with
 | _ n ih =>
   subst h
   cases hx : nx l with
   | more => rw [iU hx]; intro _; exact mV hx
   | err e => rw [mW hx]; simp
   | frame k st d n =>
     have hb := aV hx
     have := ih (l.drop n).length (by rw [List.length_drop]; omega) (l.drop n) rfl
     rw [ja hx]
     exact this
def bC (l : Bs) (f : Int) (s : Bs) : List Fr := if f = 0 then (all (l ++ s)).1 else []
def fU (l : Bs) (f : Int) (s : Bs) : Int := if f = 0 then ((all (l ++ s)).2.1 : Int) else f
def jK (l : Bs) (f : Int) (s : Bs) : Bs := if f = 0 then (all (l ++ s)).2.2 else l
end Lk
theorem LX {T : TypeId} {more : List Value} (b : Nat) (s t : ByteArray) (f : Int) (w : World) (hs : f = 0 -> s.size <= 72) (ht : t.size <= 2 ^ 39) (hI : Is w b T (.string s :: .int .i64 0 :: .int .i64 f :: more)) :
 Calls Tryz.prog 48 #[.pointer (some ⟨b, 0, none⟩), .string t] w fun e w' =>
  ∃ v, e = .returned (.tuple #[v, .int .i64 (Lk.fU s.data.toList f t.data.toList)])
   ∧ w'.ownsRow w.heap.size 79 3 v (Lk.bC s.data.toList f t.data.toList).length (aZ (Lk.bC s.data.toList f t.data.toList))
   ∧ (∃ s' : ByteArray, Is w' b T (.string s' :: .int .i64 0 :: .int .i64 (Lk.fU s.data.toList f t.data.toList) :: more) ∧ (Lk.fU s.data.toList f t.data.toList = 0 -> s'.data.toList = Lk.jK s.data.toList f t.data.toList ∧ s'.size <= 72))
   ∧ Turns b w w' := by
 unfold Lk.fU Lk.bC Lk.jK
 by_cases hf : f = 0
 . subst hf
   simp only [if_true]
   refine (xP b s t w (by have := hs rfl; omega) hI).mono ?_
   rintro e w' ⟨v, rfl, ho, hI', hT⟩
   refine ⟨v, rfl, ho, ⟨_, hI', fun h => ⟨rfl, ?_⟩⟩, hT⟩
   have := Lk.lW _ (by omega : (Lk.all (s.data.toList ++ t.data.toList)).2.1 = 0)
   rw [af]
   exact this
 . simp only [if_neg hf]
   refine (feed_bad b s t f w hf hI).mono ?_
   rintro e w' ⟨rfl, n, rfl⟩
   exact ⟨_, rfl, World.ownsRow_nil _ _ _ _, ⟨s, hI.drewN n, fun h => absurd h hf⟩, (Turns.refl _ _).drewN n⟩
open Go.RowKit
theorem LY (w : World) (fs : List Lk.Fr) (Ba Bb : Nat) (va vb : Value) (hl : fs.length <= 2 ^ 40) (ha : w.ownsRow Ba 79 3 va fs.length (aZ fs)) (hb : w.ownsRow Bb 66 3 vb fs.length (aZ fs)) :
 Calls Tryz.prog 57 #[va, vb] w fun e w' => e = .returned (.bool true) ∧ ∃ n, w' = w.drewN n := by
 rcases jF ha with ⟨rfl, rfl⟩ | ⟨g, cap, rfl, _, _, hcap, hca⟩
 . rcases jF hb with ⟨_, rfl⟩ | ⟨g', cap', rfl, _, _, hcap', hcb⟩
   all_goals
    clear ha hb
    go_enter Tryz.func57, Tryz.ntmps57
    go_wp2_with fail
    refine wp_loop_rounds 1 ?_
    rw [rounds_succ]
    go_wp2_with fail
    go_ret
    exact ⟨rfl, 0, rfl⟩
 . rcases jF hb with ⟨rfl, rfl⟩ | ⟨g', cap', rfl, _, _, hcap', hcb⟩
   . clear ha hb
     go_enter Tryz.func57, Tryz.ntmps57
     go_wp2_with fail
     refine wp_loop_rounds 1 ?_
     rw [rounds_succ]
     go_wp2_with fail
     go_ret
     exact ⟨rfl, 0, rfl⟩
   . clear ha hb
     go_enter Tryz.func57, Tryz.ntmps57
     go_wp2_with fail
     go_loopw [5] (fun i wr => ∃ k n : Nat, k <= fs.length ∧ i = .int .i64 k ∧ wr = w.drewN n) (fun i _ => fs.length - (intOf i).toNat)
     case atStart => exact ⟨0, 0, Nat.zero_le _, rfl, rfl⟩
     case round =>
      obtain ⟨k, n, hk, rfl, rfl⟩ := hrel
      by_cases hlt : k < fs.length
      . obtain ⟨a0, a1, a2⟩ := hca k hlt
        obtain ⟨b0, b1, b2⟩ := hcb k hlt
        have hlt' : (k : Int) < fs.length := by omega
        generalize fs[k] = f at *
        obtain ⟨fk, fst, fd⟩ := f
        dsimp only at a0 a1 a2 b0 b1 b2
        clear hca hcb
        go_wp2_with fail
        go_quiet (fail)
        go_wp2_with fail
        go_roundw
        case rel => exact ⟨k + 1, _, by omega, by go_num, rfl⟩
        case measure => simp [intOf]; omega
      . have hlt' : ¬ (k : Int) < fs.length := by omega
        clear hca hcb
        go_wp2_with fail
        go_ret
        exact ⟨rfl, _, rfl⟩
structure iD (B : Nat) (w : World) (E T : TypeId) (cs : List Value) (v : Value) (rs : List Nat) : Prop where
 own : w.ownsRow B E 1 v rs.length (rs.map ptr)
 nd : rs.Nodup
 is : ∀ r ∈ rs, B <= r ∧ Is w r T cs
theorem iD.nil (B : Nat) (w : World) (E T : TypeId) (cs : List Value) : iD B w E T cs gQ [] := ⟨World.ownsRow_nil _ _ _ _, List.nodup_nil, by simp⟩
theorem iD.grown {B : Nat} {w w' : World} {E T : TypeId} {cs : List Value} {v : Value} {rs : List Nat} (h : iD B w E T cs v rs) {row : Option Nat} (hg : w.grownBy w' row)
 (h1 : v.ownBlock = none ∨ v.ownBlock ≠ row) (h2 : ∀ r ∈ rs, some r ≠ row) : iD B w' E T cs v rs :=
 ⟨h.own.kept hg h1, h.nd, fun r hr => ⟨(h.is r hr).1, (h.is r hr).2.grown hg (h2 r hr)⟩⟩
theorem iD.below {B : Nat} {w w' : World} {E T : TypeId} {cs : List Value} {v : Value} {rs : List Nat} (h : iD B w E T cs v rs) (hb : Below w.heap.size w w') : iD B w' E T cs v rs :=
 h.grown (row := none) ⟨hb.os, hb.tape, hb.output, hb.size, fun i hi _ => hb.block i hi⟩ (by cases v.ownBlock <;> simp) (by simp)
theorem iD.alloc {B : Nat} {w : World} {E T : TypeId} {cs : List Value} {v : Value} {rs : List Nat} (h : iD B w E T cs v rs) (o : Obj) : iD B (w.alloc o) E T cs v rs :=
 h.below ((Below.refl _ _).alloc (Nat.le_refl _) o)
structure Making (B M : Nat) (pv : Value) (w : World) (vR vS : Value) (rs ss : List Nat) : Prop where
 made : Is w M 132 [vR, vS, gQ, gQ, gQ, gQ, pv]
 R : iD B w 133 85 [.string ⟨#[]⟩, .int .i64 0, .int .i64 0] vR rs
 S : iD B w 52 54 [.string ⟨#[]⟩, .int .i64 0] vS ss
end Go.Proofs.YtbkpdapagfjmmaaGreatDoor
