import Derived.Test.YtbkpdapagfjmmaaGreatDoorMPGW3
import Derived.Test.YtbkpdapagfjmmaaGreatDoorProg
set_option linter.unusedVariables false
set_option maxRecDepth 100000
set_option maxHeartbeats 16000000
namespace Go.Proofs.YtbkpdapagfjmmaaGreatDoor
open Go.RowKit
namespace Lk
def Rd.next (i : Nat) : Rd → Int | .ok _ k => ((i + k : Nat) : Int) | _ => 0
def Rd.badAt (i : Nat) : Rd → Int | .bad k => ((i + k : Nat) : Int) | _ => -1
def Rd.isShort : Rd → Bool | .short => true | _ => false
end Lk
def RefHalf (s : ByteArray) (i t acc B : Nat) : Prop := B = 128 ^ t ∧ Halfway s i t (i + t) acc
theorem wrap64_byte' (c : UInt8) : wrap64 (c.toNat : Int) = c.toNat := wrap64_small _ (by have := byte_lt c; omega)
theorem tmod_nat (a b : Nat) : ((a : Int).tmod b) = ((a % b : Nat) : Int) := by simp [Int.tmod]
theorem ref_step {s : ByteArray} {i t acc B : Nat} (h : RefHalf s i t acc B) (ht : t < 4) (c : UInt8) :
    wrap64 ((acc : Int) + wrap64 ((wrap64 (c.toNat : Int)).tmod 128 * (B : Int))) = ((acc + c.toNat % 128 * 128 ^ t : Nat) : Int) ∧ wrap64 (128 * (B : Int)) = ((128 ^ (t + 1) : Nat) : Int) := by
  obtain ⟨rfl, h⟩ := h
  have hacc := h.2.2.2.1
  have hc := byte_lt c
  rw [wrap64_byte', show (128 : Int) = ((128 : Nat) : Int) from rfl, tmod_nat]
  have hx : c.toNat % 128 < 128 := by omega
  generalize c.toNat % 128 = x at *
  rcases (by omega : t = 0 ∨ t = 1 ∨ t = 2 ∨ t = 3) with rfl | rfl | rfl | rfl
  all_goals
    have e : ∀ y : Nat, y < 2 ^ 62 → wrap64 (y : Int) = y := wrap64_small
    refine ⟨?_, ?_⟩
    · rw [← Int.natCast_mul, e _ (by omega), ← Int.natCast_add, e _ (by omega)]
    · rw [← Int.natCast_mul, e _ (by omega)]
theorem Halfway.eqShort {s : ByteArray} {p t q acc : Nat} {r : Lk.Rd} (h : Halfway s p t q acc) (hr : Hid (Lk.rd 0 0 (s.data.toList.drop p) = r)) (hlt : ¬ q < s.size) : r = .short := by
  obtain ⟨rfl, h1, h2, h3, h4⟩ := h
  rw [← uh hr, ← h4, drop_end s _ (by omega), Lk.rd_nil]
theorem Halfway.eqBad {s : ByteArray} {p t q acc : Nat} {r : Lk.Rd} (h : Halfway s p t q acc) (hr : Hid (Lk.rd 0 0 (s.data.toList.drop p) = r)) (hlt : q < s.size) (hb : t = 4 ∨ (0 < t ∧ s[q].toNat = 0)) : r = .bad t := by
  obtain ⟨rfl, h1, h2, h3, h4⟩ := h
  rw [← uh hr, ← h4, drop_cons s _ hlt, Lk.rd_bad _ _ _ _ (hb.imp id fun ⟨a, b⟩ => ⟨a, byte_zero b⟩)]
theorem Halfway.eqLast {s : ByteArray} {p t q acc : Nat} {r : Lk.Rd} (h : Halfway s p t q acc) (hr : Hid (Lk.rd 0 0 (s.data.toList.drop p) = r)) (hlt : q < s.size) (ht : t < 4) (h0 : ¬ (0 < t ∧ s[q].toNat = 0)) (hc : s[q].toNat ≤ 127) :
    r = .ok (acc + s[q].toNat % 128 * 128 ^ t) (t + 1) := by
  obtain ⟨rfl, h1, h2, h3, h4⟩ := h
  rw [← uh hr, ← h4, drop_cons s _ hlt, Lk.rd_last _ _ _ _ (by rintro (h | ⟨h, h'⟩) <;> first | omega | exact h0 ⟨h, by rw [h']; rfl⟩) (by omega)]
theorem ret_found {a n b a' n' b' : Int} {x x' : Bool} (h1 : a = a') (h2 : n = n') (h3 : b = b') (h4 : x = x') :
    Ending.returned (.agg #[.int .i64 a, .int .i64 n, .int .i64 b, .bool x]) = .returned (.agg #[.int .i64 a', .int .i64 n', .int .i64 b', .bool x']) := by rw [h1, h2, h3, h4]
theorem refnumber_any (s : ByteArray) (i : Nat) (w : World) (hs : s.size ≤ 2 ^ 62) (hi : i ≤ s.size) :
    Calls Tryz.prog 84 #[.string s, .int .i64 i] w fun e w' =>
      e = .returned (.agg #[.int .i64 (Lk.rd 0 0 (s.data.toList.drop i)).val, .int .i64 ((Lk.rd 0 0 (s.data.toList.drop i)).next i), .int .i64 ((Lk.rd 0 0 (s.data.toList.drop i)).badAt i), .bool (Lk.rd 0 0 (s.data.toList.drop i)).isShort])
      ∧ Below w.heap.size w w' := by
  generalize hr : Lk.rd 0 0 (s.data.toList.drop i) = r
  have HR := hide hr
  clear hr
  go_enter Tryz.func84, Tryz.ntmps84
  go_wp2
  go_loopw [5, 6, 7] (fun n by_ k wr => ∃ t acc B : Nat, k = .int .i64 t ∧ n = .int .i64 acc ∧ by_ = .int .i64 B ∧ RefHalf s i t acc B ∧ wr = w.alloc (.cells #[.int .i64 0, .int .i64 0, .int .i64 0, .bool false] 187)) (fun _ _ k _ => 5 - (intOf k).toNat)
  case atStart => exact ⟨0, 0, 1, rfl, rfl, rfl, ⟨rfl, Halfway.start s i hi⟩, rfl⟩
  case round =>
    obtain ⟨t, acc, B, rfl, rfl, rfl, HH, rfl⟩ := hrel
    have ht : t ≤ 4 := HH.2.2.1
    have hti : i + t ≤ s.size := HH.2.2.2.1
    by_cases hlt : i + t < s.size
    · have hlt' : (i : Int) + t < s.size := by omega
      have hw := wrap64_byte' s[i + t]
      have HW := hide hw
      clear hw
      go_wp2
      · have h3 : (t : Int) = 4 := by assumption
        have e := HH.2.eqBad HR hlt (Or.inl (by omega))
        subst e
        exact bodyPost_ret (v := .agg #[.int .i64 0, .int .i64 0, .int .i64 ((i : Int) + 4), .bool false]) (by simp [results, Tryz.results84, go_sem]) rfl ⟨ret_found rfl rfl (by simp [Lk.Rd.badAt]; omega) rfl, (Below.refl _ _).alloc (Nat.le_refl _) _⟩
      · have h4 : ((t : Int) == 4) = true ∨ (wrap64 (s[i + t].toNat : Int) == 0) = true := by assumption
        have h3 : ¬ (t : Int) = 4 := by assumption
        have h2 : 0 < t := by assumption
        rw [uh HW] at h4
        have e := HH.2.eqBad HR hlt (Or.inr ⟨h2, by simp at h4; omega⟩)
        subst e
        exact bodyPost_ret (v := .agg #[.int .i64 0, .int .i64 0, .int .i64 ((i : Int) + t), .bool false]) (by simp [results, Tryz.results84, go_sem]) rfl ⟨ret_found rfl rfl (by simp [Lk.Rd.badAt]) rfl, (Below.refl _ _).alloc (Nat.le_refl _) _⟩
      · have h4 : ((t : Int) == 4) = false ∧ (wrap64 (s[i + t].toNat : Int) == 0) = false := by assumption
        have h5 : wrap64 (s[i + t].toNat : Int) < 128 := by assumption
        have h6 : ¬ (t : Int) = 4 := by assumption
        rw [uh HW] at h4 h5
        simp at h4
        have e := HH.2.eqLast HR hlt (by omega) (by omega) (by omega)
        have g := (ref_step HH (by omega) s[i + t]).1
        subst e
        exact bodyPost_ret (v := .agg #[.int .i64 (wrap64 ((acc : Int) + wrap64 ((wrap64 (s[i + t].toNat : Int)).tmod 128 * (B : Int)))), .int .i64 ((i : Int) + t + 1), .int .i64 (-1), .bool false]) (by simp [results, Tryz.results84, go_sem]) rfl ⟨ret_found g (by simp [Lk.Rd.next]; omega) rfl rfl, (Below.refl _ _).alloc (Nat.le_refl _) _⟩
      · have h4 : ((t : Int) == 4) = false ∧ (wrap64 (s[i + t].toNat : Int) == 0) = false := by assumption
        have h5 : 128 ≤ wrap64 (s[i + t].toNat : Int) := by assumption
        have h6 : ¬ (t : Int) = 4 := by assumption
        rw [uh HW] at h4 h5
        simp at h4
        have g := ref_step HH (by omega) s[i + t]
        have hn := HH.2.next hlt (by omega) (by omega) (by omega)
        go_roundw
        case rel => exact ⟨t + 1, _, _, by go_num, by rw [g.1], by rw [g.2], ⟨rfl, by rw [← Nat.add_assoc]; exact hn⟩, by first | rfl | trivial⟩
        case measure => simp [intOf]; omega
      · have h5 : wrap64 (s[i + t].toNat : Int) < 128 := by assumption
        have h6 : ¬ 0 < t := by assumption
        rw [uh HW] at h5
        have e := HH.2.eqLast HR hlt (by omega) (by omega) (by omega)
        have g := (ref_step HH (by omega) s[i + t]).1
        subst e
        exact bodyPost_ret (v := .agg #[.int .i64 (wrap64 ((acc : Int) + wrap64 ((wrap64 (s[i + t].toNat : Int)).tmod 128 * (B : Int)))), .int .i64 ((i : Int) + t + 1), .int .i64 (-1), .bool false]) (by simp [results, Tryz.results84, go_sem]) rfl ⟨ret_found g (by simp [Lk.Rd.next]; omega) rfl rfl, (Below.refl _ _).alloc (Nat.le_refl _) _⟩
      · have h5 : 128 ≤ wrap64 (s[i + t].toNat : Int) := by assumption
        have h6 : ¬ 0 < t := by assumption
        rw [uh HW] at h5
        have g := ref_step HH (by omega) s[i + t]
        have hn := HH.2.next hlt (by omega) (by omega) (by omega)
        go_roundw
        case rel => exact ⟨t + 1, _, _, by go_num, by rw [g.1], by rw [g.2], ⟨rfl, by rw [← Nat.add_assoc]; exact hn⟩, by first | rfl | trivial⟩
        case measure => simp [intOf]; omega
    · have hlt' : ¬ ((i : Int) + t < s.size) := by omega
      go_wp2
      have e := HH.2.eqShort HR hlt
      subst e
      refine bodyPost_ret (v := .agg #[.int .i64 0, .int .i64 0, .int .i64 (-1), .bool true]) (by simp [results, Tryz.results84, go_sem]) rfl ⟨rfl, (Below.refl _ _).alloc (Nat.le_refl _) _⟩
end Go.Proofs.YtbkpdapagfjmmaaGreatDoor

namespace Go.Proofs.YtbkpdapagfjmmaaGreatDoor
open Go.RowKit
theorem whole_good (l : Lk.Bs) : Lk.numberWhole l = ((Lk.rd 0 0 l).good && decide (l.length ≤ (Lk.rd 0 0 l).at 0 l.length)) := by
  unfold Lk.numberWhole
  cases h : Lk.rd 0 0 l with
  | short => rfl
  | bad k => rfl
  | ok n k =>
    have := Lk.rd_ok_bounds l 0 0 n k h
    simp only [Lk.Rd.good, Lk.Rd.at, Bool.true_and]
    rw [Bool.eq_iff_iff]
    simp
    omega
theorem whole_found (l : Lk.Bs) : Lk.numberWhole l = (decide ((Lk.rd 0 0 l).badAt 0 < 0) && (!(Lk.rd 0 0 l).isShort && decide ((Lk.rd 0 0 l).next 0 = (l.length : Int)))) := by
  unfold Lk.numberWhole
  cases h : Lk.rd 0 0 l with
  | short => rfl
  | bad k =>
    have hb : ¬ ((Lk.Rd.bad k).badAt 0 < 0) := by simp only [Lk.Rd.badAt]; omega
    rw [decide_eq_false hb]; rfl
  | ok n k =>
    rw [Bool.eq_iff_iff]
    simp [Lk.Rd.badAt, Lk.Rd.isShort, Lk.Rd.next]
    omega
theorem askPayload_yes (k : Int) (s : ByteArray) (w : World) (hs : s.size ≤ maxLen) (hk : k = 3 ∨ k = 4 ∨ k = 7) :
    Calls Tryz.prog 138 #[.int .i64 k, .string s] w fun e w' => e = .returned (.int .i64 (Lk.payloadErr k s.data.toList)) ∧ Below w.heap.size w w' := by
  have HN := hide (fun b T w hI => number_any b T s 0 [] w hs (Nat.zero_le _) hI)
  have HE := hide (fun b T p w hI => ended_any b T s p [] w hs hI)
  have hg := whole_good s.data.toList
  rw [← size_list] at hg
  have hpe : Lk.payloadErr k s.data.toList = if Lk.numberWhole s.data.toList = false then 6 else 0 := by
    unfold Lk.payloadErr Lk.payloadFits
    rw [if_pos hk]
  rw [hg] at hpe
  clear hg
  generalize Lk.payloadErr k s.data.toList = pe at *
  generalize hr : Lk.rd 0 0 s.data.toList = r at *
  have HG := hide hpe
  have HR := hide hr
  clear hr hpe
  rcases hk with rfl | rfl | rfl
  all_goals
    go_enter Tryz.func138, Tryz.ntmps138
    go_wp2_with fail
    refine (uh HN _ 83 _ (Is.new w 83 [.string s, .int .i64 0])).mono ?_
    rw [List.drop_zero, uh HR]
    rintro e w1 ⟨rfl, hI, hT⟩
    have hb1 : Below w.heap.size w w1 := hT.toBelow ((Below.refl _ _).alloc (Nat.le_refl _) _) (Nat.le_refl _) (by simp)
    generalize r.val = v
    generalize hp : Lk.Rd.at 0 s.size r = p at *
    generalize hg : r.good = g
    have HGD := hide hg
    clear hp hg
    cases g
    · go_wp2_with fail
      go_ret
      exact ⟨ret_int (by rw [uh HG, uh HGD]; rfl), hb1⟩
    · go_wp2_with fail
      refine (uh HE _ _ _ _ hI).mono ?_
      rintro e w2 ⟨rfl, n2, rfl⟩
      generalize hd : decide (s.size ≤ p) = d
      have HD := hide hd
      clear hd
      cases d
      all_goals
        go_wp2_with fail
        go_ret
        exact ⟨ret_int (by rw [uh HG, uh HGD, uh HD]; rfl), Below.drewN hb1 _⟩
theorem askPayload_no (k : Int) (s : ByteArray) (w : World) (hk : ¬ (k = 3 ∨ k = 4 ∨ k = 7)) :
    Calls Tryz.prog 138 #[.int .i64 k, .string s] w fun e w' => e = .returned (.int .i64 (Lk.payloadErr k s.data.toList)) ∧ Below w.heap.size w w' := by
  have hpe : Lk.payloadErr k s.data.toList = 0 := by
    unfold Lk.payloadErr Lk.payloadFits
    rw [if_neg hk]; rfl
  rw [hpe]
  have h3 : (k == 3) = false := by simp; omega
  have h4 : (k == 4) = false := by simp; omega
  have h7 : (k == 7) = false := by simp; omega
  clear hpe hk
  go_enter Tryz.func138, Tryz.ntmps138
  go_wp2_with fail
  go_ret
  exact ⟨rfl, Below.refl _ _⟩
theorem askPayload_any (k : Int) (s : ByteArray) (w : World) (hs : s.size ≤ maxLen) :
    Calls Tryz.prog 138 #[.int .i64 k, .string s] w fun e w' => e = .returned (.int .i64 (Lk.payloadErr k s.data.toList)) ∧ Below w.heap.size w w' := by
  by_cases hk : k = 3 ∨ k = 4 ∨ k = 7
  · exact askPayload_yes k s w hs hk
  · exact askPayload_no k s w hk
theorem payloadFits_yes (k : Int) (s : ByteArray) (w : World) (hs : s.size ≤ 2 ^ 62) (hk : k = 3 ∨ k = 4 ∨ k = 7) :
    Calls Tryz.prog 87 #[.int .i64 k, .string s] w fun e w' => e = .returned (.bool (Lk.payloadFits k s.data.toList)) ∧ Below w.heap.size w w' := by
  have HN := hide (fun w => refnumber_any s 0 w hs (Nat.zero_le _))
  have hg := whole_found s.data.toList
  rw [← size_list] at hg
  have hpe : Lk.payloadFits k s.data.toList = Lk.numberWhole s.data.toList := by
    unfold Lk.payloadFits
    rw [if_pos hk]
  rw [hg] at hpe
  clear hg
  generalize Lk.payloadFits k s.data.toList = pe at *
  generalize hr : Lk.rd 0 0 s.data.toList = r at *
  have HG := hide hpe
  have HR := hide hr
  clear hr hpe
  rcases hk with rfl | rfl | rfl
  all_goals
    go_enter Tryz.func87, Tryz.ntmps87
    go_wp2_with fail
    refine (uh HN _).mono ?_
    rw [List.drop_zero, uh HR]
    rintro e w1 ⟨rfl, hb1⟩
    generalize r.val = v
    generalize hx : r.badAt 0 = x at *
    generalize hy : r.next 0 = y at *
    generalize hz : r.isShort = z at *
    clear hx hy hz
    by_cases hx : x < 0
    · cases z
      · by_cases hyy : y = (s.size : Int)
        · have hyb : (y == (s.size : Int)) = true := by simpa using hyy
          have H := hide (decide_eq_true hyy)
          clear hyy
          go_wp2_with fail
          go_ret
          exact ⟨ret_bool (by rw [uh HG, uh H, decide_eq_true hx]; simp), hb1.alloc hb1.size _⟩
        · have hyb : (y == (s.size : Int)) = false := by simpa using hyy
          have H := hide (decide_eq_false hyy)
          clear hyy
          go_wp2_with fail
          go_ret
          exact ⟨ret_bool (by rw [uh HG, uh H, decide_eq_true hx]; simp), hb1.alloc hb1.size _⟩
      · go_wp2_with fail
        go_ret
        exact ⟨ret_bool (by rw [uh HG]; simp), hb1.alloc hb1.size _⟩
    · have H := hide (decide_eq_false hx)
      go_wp2_with fail
      go_ret
      exact ⟨ret_bool (by rw [uh HG, uh H]; simp), hb1.alloc hb1.size _⟩
theorem payloadFits_no (k : Int) (s : ByteArray) (w : World) (hk : ¬ (k = 3 ∨ k = 4 ∨ k = 7)) :
    Calls Tryz.prog 87 #[.int .i64 k, .string s] w fun e w' => e = .returned (.bool (Lk.payloadFits k s.data.toList)) ∧ Below w.heap.size w w' := by
  have hpe : Lk.payloadFits k s.data.toList = true := by
    unfold Lk.payloadFits
    rw [if_neg hk]
  rw [hpe]
  have h3 : (k != 3) = true := by rw [bne_iff_ne]; omega
  have h4 : (k != 4) = true := by rw [bne_iff_ne]; omega
  have h7 : (k != 7) = true := by rw [bne_iff_ne]; omega
  clear hpe hk
  go_enter Tryz.func87, Tryz.ntmps87
  go_wp2_with fail
  go_ret
  exact ⟨rfl, Below.refl _ _⟩
theorem payloadFits_any (k : Int) (s : ByteArray) (w : World) (hs : s.size ≤ 2 ^ 62) :
    Calls Tryz.prog 87 #[.int .i64 k, .string s] w fun e w' => e = .returned (.bool (Lk.payloadFits k s.data.toList)) ∧ Below w.heap.size w w' := by
  by_cases hk : k = 3 ∨ k = 4 ∨ k = 7
  · exact payloadFits_yes k s w hs hk
  · exact payloadFits_no k s w hk
end Go.Proofs.YtbkpdapagfjmmaaGreatDoor
