/-
  Walks: is a payload one of its kind (both sides).
-/
import Derived.Test.YtbkpdapagfjmmaaGreatDoorW3
import Derived.Test.YtbkpdapagfjmmaaGreatDoorW4
namespace Go.Proofs.YtbkpdapagfjmmaaGreatDoor
open Go.RowKit

theorem whole_good (l : Lk.Bs) : Lk.numberWhole l = ((Lk.rd 0 0 l).good && decide (l.length ≤ (Lk.rd 0 0 l).at 0 l.length)) := by
  unfold Lk.numberWhole
  cases h : Lk.rd 0 0 l with
  | short => rfl
  | bad k => rfl
  | ok n k =>
    have := Lk.rd_ok_bounds l 0 0 n k h
    simp only [Lk.Rd.good, Lk.Rd.at, Bool.true_and]
    rw [Bool.eq_iff_iff]
    simp
    omega

theorem whole_found (l : Lk.Bs) : Lk.numberWhole l = (decide ((Lk.rd 0 0 l).badAt 0 < 0) && (!(Lk.rd 0 0 l).isShort && decide ((Lk.rd 0 0 l).next 0 = (l.length : Int)))) := by
  unfold Lk.numberWhole
  cases h : Lk.rd 0 0 l with
  | short => rfl
  | bad k =>
    have hb : ¬ ((Lk.Rd.bad k).badAt 0 < 0) := by simp only [Lk.Rd.badAt]; omega
    rw [decide_eq_false hb]; rfl
  | ok n k =>
    rw [Bool.eq_iff_iff]
    simp [Lk.Rd.badAt, Lk.Rd.isShort, Lk.Rd.next]
    omega


set_option maxHeartbeats 400000 in
set_option maxRecDepth 100000 in
theorem askPayload_yes (k : Int) (s : ByteArray) (w : World) (hs : s.size ≤ maxLen) (hk : k = 3 ∨ k = 4 ∨ k = 7) :
    Calls Tryz.prog 138 #[.int .i64 k, .string s] w fun e w' => e = .returned (.int .i64 (Lk.payloadErr k s.data.toList)) ∧ Below w.heap.size w w' := by
  have HN := hide (fun b T w hI => number_any b T s 0 [] w hs (Nat.zero_le _) hI)
  have HE := hide (fun b T p w hI => ended_any b T s p [] w hs hI)
  have hg := whole_good s.data.toList
  rw [← size_list] at hg
  have hpe : Lk.payloadErr k s.data.toList = if Lk.numberWhole s.data.toList = false then 6 else 0 := by
    unfold Lk.payloadErr Lk.payloadFits
    rw [if_pos hk]
  rw [hg] at hpe
  clear hg
  generalize Lk.payloadErr k s.data.toList = pe at *
  generalize hr : Lk.rd 0 0 s.data.toList = r at *
  have HG := hide hpe
  have HR := hide hr
  clear hr hpe
  rcases hk with rfl | rfl | rfl
  all_goals
    go_enter Tryz.func138, Tryz.ntmps138
    go_wp2_with fail
    refine (unhide HN _ 83 _ (Is.new w 83 [.string s, .int .i64 0])).mono ?_
    rw [List.drop_zero, unhide HR]
    rintro e w1 ⟨rfl, hI, hT⟩
    have hb1 : Below w.heap.size w w1 := hT.toBelow ((Below.refl _ _).alloc (Nat.le_refl _) _) (Nat.le_refl _) (by simp)
    generalize r.val = v
    generalize hp : Lk.Rd.at 0 s.size r = p at *
    generalize hg : r.good = g
    have HGD := hide hg
    clear hp hg
    cases g
    · go_wp2_with fail
      go_ret
      exact ⟨ret_int (by rw [unhide HG, unhide HGD]; rfl), hb1⟩
    · go_wp2_with fail
      refine (unhide HE _ _ _ _ hI).mono ?_
      rintro e w2 ⟨rfl, n2, rfl⟩
      generalize hd : decide (s.size ≤ p) = d
      have HD := hide hd
      clear hd
      cases d
      all_goals
        go_wp2_with fail
        go_ret
        exact ⟨ret_int (by rw [unhide HG, unhide HGD, unhide HD]; rfl), Below.drewN hb1 _⟩

set_option maxHeartbeats 400000 in
set_option maxRecDepth 100000 in
theorem askPayload_no (k : Int) (s : ByteArray) (w : World) (hk : ¬ (k = 3 ∨ k = 4 ∨ k = 7)) :
    Calls Tryz.prog 138 #[.int .i64 k, .string s] w fun e w' => e = .returned (.int .i64 (Lk.payloadErr k s.data.toList)) ∧ Below w.heap.size w w' := by
  have hpe : Lk.payloadErr k s.data.toList = 0 := by
    unfold Lk.payloadErr Lk.payloadFits
    rw [if_neg hk]; rfl
  rw [hpe]
  have h3 : (k == 3) = false := by simp; omega
  have h4 : (k == 4) = false := by simp; omega
  have h7 : (k == 7) = false := by simp; omega
  clear hpe hk
  go_enter Tryz.func138, Tryz.ntmps138
  go_wp2_with fail
  go_ret
  exact ⟨rfl, Below.refl _ _⟩

theorem askPayload_any (k : Int) (s : ByteArray) (w : World) (hs : s.size ≤ maxLen) :
    Calls Tryz.prog 138 #[.int .i64 k, .string s] w fun e w' => e = .returned (.int .i64 (Lk.payloadErr k s.data.toList)) ∧ Below w.heap.size w w' := by
  by_cases hk : k = 3 ∨ k = 4 ∨ k = 7
  · exact askPayload_yes k s w hs hk
  · exact askPayload_no k s w hk

set_option maxHeartbeats 400000 in
set_option maxRecDepth 100000 in
theorem payloadFits_yes (k : Int) (s : ByteArray) (w : World) (hs : s.size ≤ 2 ^ 62) (hk : k = 3 ∨ k = 4 ∨ k = 7) :
    Calls Tryz.prog 87 #[.int .i64 k, .string s] w fun e w' => e = .returned (.bool (Lk.payloadFits k s.data.toList)) ∧ Below w.heap.size w w' := by
  have HN := hide (fun w => refnumber_any s 0 w hs (Nat.zero_le _))
  have hg := whole_found s.data.toList
  rw [← size_list] at hg
  have hpe : Lk.payloadFits k s.data.toList = Lk.numberWhole s.data.toList := by
    unfold Lk.payloadFits
    rw [if_pos hk]
  rw [hg] at hpe
  clear hg
  generalize Lk.payloadFits k s.data.toList = pe at *
  generalize hr : Lk.rd 0 0 s.data.toList = r at *
  have HG := hide hpe
  have HR := hide hr
  clear hr hpe
  rcases hk with rfl | rfl | rfl
  all_goals
    go_enter Tryz.func87, Tryz.ntmps87
    go_wp2_with fail
    refine (unhide HN _).mono ?_
    rw [List.drop_zero, unhide HR]
    rintro e w1 ⟨rfl, hb1⟩
    generalize r.val = v
    generalize hx : r.badAt 0 = x at *
    generalize hy : r.next 0 = y at *
    generalize hz : r.isShort = z at *
    clear hx hy hz
    by_cases hx : x < 0
    · cases z
      · by_cases hyy : y = (s.size : Int)
        · have hyb : (y == (s.size : Int)) = true := by simpa using hyy
          have H := hide (decide_eq_true hyy)
          clear hyy
          go_wp2_with fail
          go_ret
          exact ⟨ret_bool (by rw [unhide HG, unhide H, decide_eq_true hx]; simp), hb1.alloc hb1.size _⟩
        · have hyb : (y == (s.size : Int)) = false := by simpa using hyy
          have H := hide (decide_eq_false hyy)
          clear hyy
          go_wp2_with fail
          go_ret
          exact ⟨ret_bool (by rw [unhide HG, unhide H, decide_eq_true hx]; simp), hb1.alloc hb1.size _⟩
      · go_wp2_with fail
        go_ret
        exact ⟨ret_bool (by rw [unhide HG]; simp), hb1.alloc hb1.size _⟩
    · have H := hide (decide_eq_false hx)
      go_wp2_with fail
      go_ret
      exact ⟨ret_bool (by rw [unhide HG, unhide H]; simp), hb1.alloc hb1.size _⟩

set_option maxHeartbeats 400000 in
set_option maxRecDepth 100000 in
theorem payloadFits_no (k : Int) (s : ByteArray) (w : World) (hk : ¬ (k = 3 ∨ k = 4 ∨ k = 7)) :
    Calls Tryz.prog 87 #[.int .i64 k, .string s] w fun e w' => e = .returned (.bool (Lk.payloadFits k s.data.toList)) ∧ Below w.heap.size w w' := by
  have hpe : Lk.payloadFits k s.data.toList = true := by
    unfold Lk.payloadFits
    rw [if_neg hk]
  rw [hpe]
  have h3 : (k != 3) = true := by rw [bne_iff_ne]; omega
  have h4 : (k != 4) = true := by rw [bne_iff_ne]; omega
  have h7 : (k != 7) = true := by rw [bne_iff_ne]; omega
  clear hpe hk
  go_enter Tryz.func87, Tryz.ntmps87
  go_wp2_with fail
  go_ret
  exact ⟨rfl, Below.refl _ _⟩

theorem payloadFits_any (k : Int) (s : ByteArray) (w : World) (hs : s.size ≤ 2 ^ 62) :
    Calls Tryz.prog 87 #[.int .i64 k, .string s] w fun e w' => e = .returned (.bool (Lk.payloadFits k s.data.toList)) ∧ Below w.heap.size w w' := by
  by_cases hk : k = 3 ∨ k = 4 ∨ k = 7
  · exact payloadFits_yes k s w hs hk
  · exact payloadFits_no k s w hk

end Go.Proofs.YtbkpdapagfjmmaaGreatDoor
