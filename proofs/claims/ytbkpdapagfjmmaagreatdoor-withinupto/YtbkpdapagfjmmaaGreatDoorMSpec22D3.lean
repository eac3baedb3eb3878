import Derived.Test.YtbkpdapagfjmmaaGreatDoorMSpec8Spec9
import Derived.Test.YtbkpdapagfjmmaaGreatDoorMJ2J3
import Derived.Test.YtbkpdapagfjmmaaGreatDoorMR4R5
import Derived.Test.YtbkpdapagfjmmaaGreatDoorMW8FN
/-
  Plain mathematics of the document: the number that a payload is. Imports nothing of the program.
-/
namespace Go.Proofs.YtbkpdapagfjmmaaGreatDoor.Lk

/-- The number, read from behind. -/
def worthL : Bs → Nat
  | [] => 0
  | c :: t => 128 * worthL t + c.toNat % 128
theorem rd_worth : ∀ (l : Bs) (k acc n m : Nat), rd k acc l = .ok n m → m = k + l.length → n = acc + worthL l * 128 ^ k
  | [], k, acc, n, m, h, _ => by rw [rd] at h; cases h
  | c :: t, k, acc, n, m, h, hm => by
    rw [rd] at h
    split at h
    · cases h
    · split at h
      · cases h
        have ht : t = [] := by
          rw [List.length_cons] at hm
          exact List.eq_nil_of_length_eq_zero (by omega)
        subst ht
        simp [worthL]
      · have := rd_worth t (k + 1) _ n m h (by rw [hm]; simp; omega)
        rw [this, worthL, Nat.pow_succ, Nat.add_mul, Nat.mul_comm 128 (worthL t), Nat.mul_assoc (worthL t) 128 (128 ^ k), Nat.mul_comm (128 ^ k) 128]
        omega
theorem worth_num {k st : Nat} {d : Bs} (hk : k = 3 ∨ k = 4 ∨ k = 7) (h : Good k st d) : worthL d = numOf d := by
  have hp := h.payload
  unfold payloadFits at hp
  rw [if_pos (by omega)] at hp
  unfold numberWhole at hp
  unfold numOf
  cases hx : rd 0 0 d with
  | short => rw [hx] at hp; cases hp
  | bad q => rw [hx] at hp; cases hp
  | ok n m =>
    rw [hx] at hp
    have hm : m = d.length := of_decide_eq_true hp
    have := rd_worth d 0 0 n m hx (by omega)
    simp at this
    exact this.symm
theorem worthL_le : ∀ (l : Bs), worthL l < 128 ^ l.length
  | [] => by simp [worthL]
  | c :: t => by
    have := worthL_le t
    rw [worthL, List.length_cons, Nat.pow_succ]
    omega
end Go.Proofs.YtbkpdapagfjmmaaGreatDoor.Lk

/-
  Walks: the number that a payload is.
-/
namespace Go.Proofs.YtbkpdapagfjmmaaGreatDoor
open Go.RowKit

theorem worth_drop (d : Lk.Bs) (i : Nat) (hi : i < d.length) : Lk.worthL (d.drop i) = 128 * Lk.worthL (d.drop (i + 1)) + (d[i]).toNat % 128 := by
  rw [List.drop_eq_getElem_cons hi, Lk.worthL]
set_option maxHeartbeats 1000000 in
set_option maxRecDepth 100000 in
theorem worth_any (d : Lk.Bs) (w : World) (hd : d.length ≤ 4) : Calls Tryz.prog 23 #[.string (bs d)] w fun r w' => r = .returned (.int .i64 (Lk.worthL d : Int)) ∧ w' = w := by
  have hsz : (bs d).size = d.length := bs_size d
  have hsz' : ((bs d).size : Int) = (d.length : Int) := by omega
  go_enter Tryz.func23, Tryz.ntmps23
  go_wp2_with fail
  go_loopw [3, 4] (fun u v wr => ∃ k : Nat, k ≤ d.length ∧ v = .int .i64 ((k : Int) - 1) ∧ u = .int .i64 (Lk.worthL (d.drop k) : Int) ∧ wr = w) (fun _ v _ => (intOf v + 1).toNat)
  case atStart => exact ⟨d.length, Nat.le_refl _, rfl, by simp [Lk.worthL], rfl⟩
  case round =>
    obtain ⟨k, hk, rfl, rfl, rfl⟩ := hrel
    cases k with
    | zero =>
      have hneg : ¬ (0 : Int) ≤ ((0 : Nat) : Int) - 1 := by omega
      rw [List.drop_zero]
      go_wp2_with fail
      go_ret
      exact ⟨rfl, rfl⟩
    | succ k =>
      have e1 : ((k + 1 : Nat) : Int) - 1 = (k : Int) := by omega
      rw [e1]
      have hkb : (k : Int) < ((bs d).size : Int) := by omega
      have hkn : k < (bs d).size := by omega
      have hw := worth_drop d k (by omega)
      have hl := Lk.worthL_le (d.drop (k + 1))
      have hlt : Lk.worthL (d.drop (k + 1)) ≤ 268435456 := by
        have h1 : (d.drop (k + 1)).length ≤ 4 := by rw [List.length_drop]; omega
        exact Nat.le_of_lt (Nat.lt_of_lt_of_le hl (Nat.pow_le_pow_right (by omega) h1))
      have hW := hide hw
      generalize Lk.worthL (d.drop (k + 1)) = n at *
      clear hw hl
      go_wp2_with fail
      have hc : ∀ h : k < (bs d).size, (bs d)[k]'h = d[k] := fun h => by
        show (bs d).data[k] = d[k]
        simp [bs]
        rfl
      have key : ∀ c : UInt8, wrap64 (128 * (n : Int) + (wrap64 (c.toNat : Int)).tmod 128) = ((128 * n + c.toNat % 128 : Nat) : Int) := fun c => by
        have hb := c.toNat_lt
        have e2 : wrap64 (c.toNat : Int) = (c.toNat : Int) := wrap64_small _ (by omega)
        have e4 : ((c.toNat : Int)).tmod 128 = ((c.toNat % 128 : Nat) : Int) := by
          rw [Int.tmod_eq_emod_of_nonneg (by omega)]
          omega
        rw [e2, e4]
        have := wrap64_small (128 * n + c.toNat % 128) (by omega)
        rw [← this]
        congr 1
      refine ⟨⟨k, by omega, rfl, ?_, trivial⟩, by simp [intOf]⟩
      rw [unhide hW]
      refine congrArg (Value.int .i64) ((key _).trans ?_)
      rw [hc]
      rfl
end Go.Proofs.YtbkpdapagfjmmaaGreatDoor

/-
  Walks: the document's next.
-/
namespace Go.Proofs.YtbkpdapagfjmmaaGreatDoor
open Go.RowKit

/-- What the document's next answers. -/
def NextIs (x : Lk.Nx) (a b : Int) (c : ByteArray) (n e : Int) : Prop :=
  (x = .more ∧ n = 0 ∧ e = 0) ∨ (∃ k : Nat, x = .err k ∧ n = 0 ∧ e = k) ∨ (∃ (k st : Nat) (d : Lk.Bs) (j : Nat), x = .frame k st d j ∧ a = k ∧ b = st ∧ c = ⟨d.toArray⟩ ∧ n = j ∧ e = 0)

theorem NextIs.more {x : Lk.Nx} {a b : Int} {c : ByteArray} (h : x = .more) : NextIs x a b c 0 0 := Or.inl ⟨h, rfl, rfl⟩
theorem NextIs.err {x : Lk.Nx} {a b : Int} {c : ByteArray} {k : Nat} {e : Int} (h : x = .err k) (he : e = k) : NextIs x a b c 0 e := Or.inr (Or.inl ⟨k, h, rfl, he⟩)

theorem refnumber_at (s : ByteArray) (z : Int) (i : Nat) (w : World) (hz : z = i) (hs : s.size ≤ 2 ^ 62) (hi : i ≤ s.size) :
    Calls Tryz.prog 84 #[.string s, .int .i64 z] w fun e w' =>
      e = .returned (.agg #[.int .i64 (Lk.rd 0 0 (s.data.toList.drop i)).val, .int .i64 ((Lk.rd 0 0 (s.data.toList.drop i)).next i), .int .i64 ((Lk.rd 0 0 (s.data.toList.drop i)).badAt i), .bool (Lk.rd 0 0 (s.data.toList.drop i)).isShort])
      ∧ Below w.heap.size w w' := by
  subst hz
  exact refnumber_any s i w hs hi

set_option maxHeartbeats 4000000 in
set_option maxRecDepth 100000 in
theorem refnext_any (s : ByteArray) (w : World) (hs : s.size ≤ 2 ^ 41) :
    Calls Tryz.prog 46 #[.string s] w fun e w' =>
      (∃ (a b : Int) (c : ByteArray) (n e' : Int), e = .returned (.tuple #[.agg #[.int .i64 a, .int .i64 b, .string c], .int .i64 n, .int .i64 e']) ∧ NextIs (Lk.nx s.data.toList) a b c n e') ∧ Below w.heap.size w w' := by
  by_cases hlt : 0 < s.size
  · have hcons := drop_cons s 0 hlt
    rw [List.drop_zero] at hcons
    rw [hcons]
    have hemp := isEmpty_of s hlt
    have hz0 : (0 : Int) < s.size := by omega
    by_cases h7 : 7 < s[0].toNat
    · have hnx : Lk.nx (s[0] :: s.data.toList.drop (0 + 1)) = .err 3 := by rw [Lk.nx, if_pos h7]
      have HX := hide hnx
      have hw := wrap64_byte' s[0]
      clear hnx hcons
      go_enter Tryz.func46, Tryz.ntmps46
      go_wp2_with fail
      have hfin := NextIs.err (a := (s[0].toNat : Int)) (b := 0) (c := ⟨#[]⟩) (e := 3) (unhide HX) rfl
      exact bodyPost_ret (v := .tuple #[.agg #[.int .i64 (s[0].toNat : Int), .int .i64 0, .string ⟨#[]⟩], .int .i64 0, .int .i64 3]) (by simp [results, Tryz.results46, go_sem]) rfl ⟨⟨_, _, _, _, _, rfl, hfin⟩, by ((repeat' (first | exact Below.refl _ _ | assumption | apply Below.drew | apply Below.alloc | apply Below.setCell)) <;> (simp <;> omega))⟩
    · generalize hl : s.data.toList.drop (0 + 1) = t
      have hlen : t.length = s.size - 1 := by rw [← hl, List.length_drop, ← size_list]
      have HL := hide hl
      clear hl hcons
      generalize hx : Lk.nx (s[0] :: t) = x
      have HX := hide hx
      have hw := wrap64_byte' s[0]
      clear hx
      have hA0 := (Is.new w 66 [.int .i64 0, .int .i64 0, .string ⟨#[]⟩]).alloc (.cells #[.int .i64 (s[0].toNat : Int), .int .i64 0, .string ⟨#[]⟩] 66)
      have hB0 := Is.new (w.alloc (.cells #[.int .i64 0, .int .i64 0, .string ⟨#[]⟩] 66)) 66 [.int .i64 (s[0].toNat : Int), .int .i64 0, .string ⟨#[]⟩]
      have hb0 : Below w.heap.size w ((w.alloc (.cells #[.int .i64 0, .int .i64 0, .string ⟨#[]⟩] 66)).alloc (.cells #[.int .i64 (s[0].toNat : Int), .int .i64 0, .string ⟨#[]⟩] 66)) := by ((repeat' (first | exact Below.refl _ _ | assumption | apply Below.drew | apply Below.alloc | apply Below.setCell)) <;> (simp <;> omega))
      rw [World.size_alloc] at hB0
      go_enter Tryz.func46, Tryz.ntmps46
      go_wp2_with fail
      refine (refnumber_at s _ 1 _ rfl (by omega) (by omega)).mono ?_
      rw [show s.data.toList.drop 1 = t from unhide HL]
      rintro e w1 ⟨rfl, hb1⟩
      have hA1 := hA0.below hb1 (by simp <;> omega)
      have hB1 := hB0.below hb1 (by simp <;> omega)
      have hbw1 : Below w.heap.size w w1 := hb0.trans (hb1.mono (by simp <;> omega))
      have hz1 : w.heap.size + 1 < w1.heap.size := hB1.lt
      have hz2 : w.heap.size < w1.heap.size := hA1.lt
      clear hA0 hB0 hb0 hb1
      have a0 := hA1.cell 0
      have a1 := hA1.cell 1
      have a2 := hA1.cell 2
      have fa0 := hA1.free 0
      have fa1 := hA1.free 1
      have fa2 := hA1.free 2
      simp only [List.getElem?_cons_zero, List.getElem?_cons_succ] at a0 a1 a2
      have b0 := hB1.cell 0
      have b1 := hB1.cell 1
      have b2 := hB1.cell 2
      have fb0 := hB1.free 0
      have fb1 := hB1.free 1
      have fb2 := hB1.free 2
      simp only [List.getElem?_cons_zero, List.getElem?_cons_succ] at b0 b1 b2
      cases hr : Lk.rd 0 0 t with
      | short =>
        have e1 := nx_short1 h7 hr
        rw [unhide HX] at e1
        subst e1
        simp only [Lk.Rd.val, Lk.Rd.next, Lk.Rd.badAt, Lk.Rd.isShort]
        clear hr
        go_wp2_with fail
        exact bodyPost_ret (v := .tuple #[.agg #[.int .i64 (s[0].toNat : Int), .int .i64 0, .string ⟨#[]⟩], .int .i64 0, .int .i64 0]) (by simp [results, Tryz.results46, go_sem, hz2, a0, a1, a2]) rfl ⟨⟨_, _, _, _, _, rfl, .more rfl⟩, by ((repeat' (first | exact Below.refl _ _ | assumption | apply Below.drew | apply Below.alloc | apply Below.setCell)) <;> (simp <;> omega))⟩
      | bad k =>
        have e1 := nx_bad1 h7 hr
        rw [unhide HX] at e1
        subst e1
        simp only [Lk.Rd.val, Lk.Rd.next, Lk.Rd.badAt, Lk.Rd.isShort]
        clear hr
        go_wp2_with fail
        exact bodyPost_ret (v := .tuple #[.agg #[.int .i64 (s[0].toNat : Int), .int .i64 0, .string ⟨#[]⟩], .int .i64 0, .int .i64 2]) (by simp [results, Tryz.results46, go_sem, hz2, a0, a1, a2]) rfl ⟨⟨_, _, _, _, _, rfl, .err rfl rfl⟩, by ((repeat' (first | exact Below.refl _ _ | assumption | apply Below.drew | apply Below.alloc | apply Below.setCell)) <;> (simp <;> omega))⟩
      | ok st a =>
        have ha := Lk.rd_ok_bounds t 0 0 st a hr
        have hst := rd_lt t 0 0 st a (by omega) (by omega) hr
        have HR := hide hr
        simp only [Lk.Rd.val, Lk.Rd.next, Lk.Rd.badAt, Lk.Rd.isShort]
        clear hr
        have hst' : (st : Int) ≤ 268435455 := by omega
        by_cases hsf : Lk.streamFits s[0].toNat st = false
        · have e1 := nx_stream h7 (unhide HR) hsf
          rw [unhide HX] at e1
          subst e1
          have HS := hide hsf
          clear hsf
          go_wp2_with fail
          refine (streamFits_any _ _ _).mono ?_
          rw [unhide HS]
          rintro e w2 ⟨rfl, rfl⟩
          go_wp2_with fail
          exact bodyPost_ret (v := .tuple #[.agg #[.int .i64 (s[0].toNat : Int), .int .i64 (st : Int), .string ⟨#[]⟩], .int .i64 0, .int .i64 4]) (by simp [results, Tryz.results46, go_sem, hz2, a0, a1, a2]) rfl ⟨⟨_, _, _, _, _, rfl, .err rfl rfl⟩, by ((repeat' (first | exact Below.refl _ _ | assumption | apply Below.drew | apply Below.alloc | apply Below.setCell)) <;> (simp <;> omega))⟩
        have HSF := hide hsf
        have hsf' : Lk.streamFits s[0].toNat st = true := by simpa using hsf
        have HS := hide hsf'
        clear hsf hsf'
        go_wp2_with fail
        refine (streamFits_any _ _ _).mono ?_
        rw [unhide HS]
        rintro e w2 ⟨rfl, rfl⟩
        go_wp2_with fail
        have hA2 := (hA1.other ⟨w.heap.size + 1, 1, none⟩ (.int .i64 (st : Int)) (by simp)).alloc (.cells #[.int .i64 (st : Int), .int .i64 (1 + (a : Int)), .int .i64 (-1), .bool false] 187)
        have hB2 := (hB1.set 1 (.int .i64 (st : Int))).alloc (.cells #[.int .i64 (st : Int), .int .i64 (1 + (a : Int)), .int .i64 (-1), .bool false] 187)
        have hbw2 := (hbw1.setCell (p := ⟨w.heap.size + 1, 1, none⟩) (by simp) (.int .i64 (st : Int))).alloc (by simp; omega) (.cells #[.int .i64 (st : Int), .int .i64 (1 + (a : Int)), .int .i64 (-1), .bool false] 187)
        refine (refnumber_at s _ (1 + a) _ (by simp) (by omega) (by omega)).mono ?_
        rw [← List.drop_drop, show s.data.toList.drop 1 = t from unhide HL]
        rintro e w3 ⟨rfl, hb3⟩
        have hA3 := hA2.below hb3 hA2.lt
        have hB3 := hB2.below hb3 hB2.lt
        have hbw3 : Below w.heap.size w w3 := hbw2.trans (hb3.mono hbw2.size)
        clear a0 a1 a2 fa0 fa1 fa2 b0 b1 b2 fb0 fb1 fb2 hz1 hz2
        clear hA1 hB1 hbw1 hA2 hB2 hbw2 hb3
        simp only [List.set_cons_succ, List.set_cons_zero] at hB3
        have hz1 : w.heap.size + 1 < w3.heap.size := hB3.lt
        have hz2 : w.heap.size < w3.heap.size := hA3.lt
        have a0 := hA3.cell 0
        have a1 := hA3.cell 1
        have a2 := hA3.cell 2
        have fa0 := hA3.free 0
        have fa1 := hA3.free 1
        have fa2 := hA3.free 2
        simp only [List.getElem?_cons_zero, List.getElem?_cons_succ] at a0 a1 a2
        have b0 := hB3.cell 0
        have b1 := hB3.cell 1
        have b2 := hB3.cell 2
        have fb0 := hB3.free 0
        have fb1 := hB3.free 1
        have fb2 := hB3.free 2
        simp only [List.getElem?_cons_zero, List.getElem?_cons_succ] at b0 b1 b2
        cases hr : Lk.rd 0 0 (t.drop a) with
        | short =>
          have e1 := nx_short2 h7 (unhide HR) (unhide HSF) hr
          rw [unhide HX] at e1
          subst e1
          simp only [Lk.Rd.val, Lk.Rd.next, Lk.Rd.badAt, Lk.Rd.isShort]
          clear hr
          go_wp2_with fail
          exact bodyPost_ret (v := .tuple #[.agg #[.int .i64 (s[0].toNat : Int), .int .i64 (st : Int), .string ⟨#[]⟩], .int .i64 0, .int .i64 0]) (by simp [results, Tryz.results46, go_sem, hz2, a0, a1, a2]) rfl ⟨⟨_, _, _, _, _, rfl, .more rfl⟩, by ((repeat' (first | exact Below.refl _ _ | assumption | apply Below.drew | apply Below.alloc | apply Below.setCell)) <;> (simp <;> omega))⟩
        | bad k =>
          have e1 := nx_bad2 h7 (unhide HR) (unhide HSF) hr
          rw [unhide HX] at e1
          subst e1
          simp only [Lk.Rd.val, Lk.Rd.next, Lk.Rd.badAt, Lk.Rd.isShort]
          clear hr
          go_wp2_with fail
          exact bodyPost_ret (v := .tuple #[.agg #[.int .i64 (s[0].toNat : Int), .int .i64 (st : Int), .string ⟨#[]⟩], .int .i64 0, .int .i64 2]) (by simp [results, Tryz.results46, go_sem, hz2, a0, a1, a2]) rfl ⟨⟨_, _, _, _, _, rfl, .err rfl rfl⟩, by ((repeat' (first | exact Below.refl _ _ | assumption | apply Below.drew | apply Below.alloc | apply Below.setCell)) <;> (simp <;> omega))⟩
        | ok n m =>
          have hm := Lk.rd_ok_bounds _ 0 0 n m hr
          rw [List.length_drop] at hm
          have HR2 := hide hr
          simp only [Lk.Rd.val, Lk.Rd.next, Lk.Rd.badAt, Lk.Rd.isShort]
          clear hr
          by_cases h64 : 64 < n
          · have e1 := nx_large h7 (unhide HR) (unhide HSF) (unhide HR2) h64
            rw [unhide HX] at e1
            subst e1
            have h64' : (64 : Int) < n := by omega
            go_wp2_with fail
            exact bodyPost_ret (v := .tuple #[.agg #[.int .i64 (s[0].toNat : Int), .int .i64 (st : Int), .string ⟨#[]⟩], .int .i64 0, .int .i64 5]) (by simp [results, Tryz.results46, go_sem, hz2, a0, a1, a2]) rfl ⟨⟨_, _, _, _, _, rfl, .err rfl rfl⟩, by ((repeat' (first | exact Below.refl _ _ | assumption | apply Below.drew | apply Below.alloc | apply Below.setCell)) <;> (simp <;> omega))⟩
          have h64' : ¬ (64 : Int) < n := by omega
          by_cases hlf : Lk.lengthFits s[0].toNat n = false
          · have e1 := nx_length h7 (unhide HR) (unhide HSF) (unhide HR2) h64 hlf
            rw [unhide HX] at e1
            subst e1
            have HF := hide hlf
            clear hlf
            go_wp2_with fail
            refine (lengthFits_any _ _ _).mono ?_
            rw [unhide HF]
            rintro e w4 ⟨rfl, rfl⟩
            go_wp2_with fail
            exact bodyPost_ret (v := .tuple #[.agg #[.int .i64 (s[0].toNat : Int), .int .i64 (st : Int), .string ⟨#[]⟩], .int .i64 0, .int .i64 6]) (by simp [results, Tryz.results46, go_sem, hz2, a0, a1, a2]) rfl ⟨⟨_, _, _, _, _, rfl, .err rfl rfl⟩, by ((repeat' (first | exact Below.refl _ _ | assumption | apply Below.drew | apply Below.alloc | apply Below.setCell)) <;> (simp <;> omega))⟩
          have HLF := hide hlf
          have hlf' : Lk.lengthFits s[0].toNat n = true := by simpa using hlf
          have HF := hide hlf'
          clear hlf hlf'
          by_cases htk : t.length < a + m + n
          · have e1 := nx_wait h7 (unhide HR) (unhide HSF) (unhide HR2) h64 (unhide HLF) htk
            rw [unhide HX] at e1
            subst e1
            have htk' : (s.size : Int) < 1 + a + m + n := by omega
            go_wp2_with fail
            refine (lengthFits_any _ _ _).mono ?_
            rw [unhide HF]
            rintro e w4 ⟨rfl, rfl⟩
            go_wp2_with fail
            exact bodyPost_ret (v := .tuple #[.agg #[.int .i64 (s[0].toNat : Int), .int .i64 (st : Int), .string ⟨#[]⟩], .int .i64 0, .int .i64 0]) (by simp [results, Tryz.results46, go_sem, hz2, a0, a1, a2]) rfl ⟨⟨_, _, _, _, _, rfl, .more rfl⟩, by ((repeat' (first | exact Below.refl _ _ | assumption | apply Below.drew | apply Below.alloc | apply Below.setCell)) <;> (simp <;> omega))⟩
          have htk' : ¬ (s.size : Int) < 1 + a + m + n := by omega
          have htk2 : (1 : Int) + a + m ≤ 1 + a + m + n := by omega
          go_wp2_with fail
          refine (lengthFits_any _ _ _).mono ?_
          rw [unhide HF]
          rintro e w4 ⟨rfl, rfl⟩
          go_wp2_with fail
          have hdata : (s.extract (1 + a + m) (1 + a + m + n)).data.toList = (t.drop (a + m)).take n := by
            rw [← unhide HL, List.drop_drop, extract_list]
            congr 2 <;> omega
          have hdsz : (s.extract (1 + a + m) (1 + a + m + n)).size = n := by rw [ByteArray.size_extract]; omega
          have hdv : s.extract (1 + a + m) (1 + a + m + n) = ⟨((t.drop (a + m)).take n).toArray⟩ := by rw [← hdata]
          have HDV := hide hdv
          clear hdv
          generalize s.extract (1 + a + m) (1 + a + m + n) = d at *
          have hA4 := (hA3.other ⟨w.heap.size + 1, 2, none⟩ (.string d) (by simp)).alloc (.cells #[.int .i64 (n : Int), .int .i64 (1 + (a : Int) + m), .int .i64 (-1), .bool false] 187)
          have hB4 := (hB3.set 2 (.string d)).alloc (.cells #[.int .i64 (n : Int), .int .i64 (1 + (a : Int) + m), .int .i64 (-1), .bool false] 187)
          have hF4 := Is.new (w3.setCell ⟨w.heap.size + 1, 2, none⟩ (.string d)) 187 [.int .i64 (n : Int), .int .i64 (1 + (a : Int) + m), .int .i64 (-1), .bool false]
          have hbw4 := (hbw3.setCell (p := ⟨w.heap.size + 1, 2, none⟩) (by simp) (.string d)).alloc (by simp; omega) (.cells #[.int .i64 (n : Int), .int .i64 (1 + (a : Int) + m), .int .i64 (-1), .bool false] 187)
          refine (payloadFits_any _ d _ (by omega)).mono ?_
          rw [hdata]
          clear hdata
          rintro e w5 ⟨rfl, hb5⟩
          have hA5 := hA4.below hb5 hA4.lt
          have hB5 := hB4.below hb5 hB4.lt
          have hF5 := hF4.below hb5 hF4.lt
          have hbw5 : Below w.heap.size w w5 := hbw4.trans (hb5.mono hbw4.size)
          rw [World.size_setCell] at hF5
          have hz3 : w.heap.size < w3.heap.size := hz2
          have hn3 : ¬ w.heap.size = w3.heap.size := Nat.ne_of_lt hz2
          have hn4 : ¬ w3.heap.size = w.heap.size := Nat.ne_of_gt hz2
          clear a0 a1 a2 fa0 fa1 fa2 b0 b1 b2 fb0 fb1 fb2 hz1 hz2
          clear hA3 hB3 hbw3 hA4 hB4 hF4 hbw4 hb5
          simp only [List.set_cons_succ, List.set_cons_zero] at hB5
          have hz1 : w.heap.size + 1 < w5.heap.size := hB5.lt
          have hz2 : w.heap.size < w5.heap.size := hA5.lt
          have a0 := hA5.cell 0
          have a1 := hA5.cell 1
          have a2 := hA5.cell 2
          have fa0 := hA5.free 0
          have fa1 := hA5.free 1
          have fa2 := hA5.free 2
          simp only [List.getElem?_cons_zero, List.getElem?_cons_succ] at a0 a1 a2
          have b0 := hB5.cell 0
          have b1 := hB5.cell 1
          have b2 := hB5.cell 2
          have fb0 := hB5.free 0
          have fb1 := hB5.free 1
          have fb2 := hB5.free 2
          simp only [List.getElem?_cons_zero, List.getElem?_cons_succ] at b0 b1 b2
          have c0 := hF5.cell 0
          have c1 := hF5.cell 1
          have c2 := hF5.cell 2
          have c3 := hF5.cell 3
          simp only [List.getElem?_cons_zero, List.getElem?_cons_succ] at c0 c1 c2 c3
          by_cases hpf : Lk.payloadFits s[0].toNat ((t.drop (a + m)).take n) = false
          · have e1 := nx_payload h7 (unhide HR) (unhide HSF) (unhide HR2) h64 (unhide HLF) htk hpf
            rw [unhide HX] at e1
            subst e1
            rw [hpf]
            clear hpf
            go_wp2_with fail
            exact bodyPost_ret (v := .tuple #[.agg #[.int .i64 (s[0].toNat : Int), .int .i64 (st : Int), .string d], .int .i64 0, .int .i64 6]) (by simp [results, Tryz.results46, go_sem, a0, a1, a2]) rfl ⟨⟨_, _, _, _, _, rfl, .err rfl rfl⟩, by ((repeat' (first | exact Below.refl _ _ | assumption | apply Below.drew | apply Below.alloc | apply Below.setCell)) <;> (simp <;> omega))⟩
          have e1 := nx_frame h7 (unhide HR) (unhide HSF) (unhide HR2) h64 (unhide HLF) htk hpf
          rw [unhide HX] at e1
          have hpf' : Lk.payloadFits s[0].toNat ((t.drop (a + m)).take n) = true := by simpa using hpf
          rw [hpf']
          have hfin : NextIs x (s[0].toNat : Int) (st : Int) d (1 + (a : Int) + m + n) 0 := by
            refine Or.inr (Or.inr ⟨_, _, _, _, e1, rfl, rfl, unhide HDV, ?_, rfl⟩)
            simp
          have HFIN := hide hfin
          clear hpf hpf' e1 hfin
          go_wp2_with fail
          go_region
          all_goals go_wp2_with fail
          all_goals exact bodyPost_ret (v := .tuple #[.agg #[.int .i64 (s[0].toNat : Int), .int .i64 (st : Int), .string d], .int .i64 (1 + (a : Int) + m + n), .int .i64 0]) (by simp [results, Tryz.results46, go_sem, a0, a1, a2]) rfl ⟨⟨_, _, _, _, _, rfl, unhide HFIN⟩, by ((repeat' (first | exact Below.refl _ _ | assumption | apply Below.drew | apply Below.alloc | apply Below.setCell)) <;> (simp <;> omega))⟩
  · obtain rfl := empty_of s (by omega)
    go_enter Tryz.func46, Tryz.ntmps46
    go_wp2_with fail
    exact bodyPost_ret (v := .tuple #[.agg #[.int .i64 0, .int .i64 0, .string ⟨#[]⟩], .int .i64 0, .int .i64 0]) (by simp [results, Tryz.results46, go_sem]) rfl ⟨⟨_, _, _, _, _, rfl, .more rfl⟩, by ((repeat' (first | exact Below.refl _ _ | assumption | apply Below.drew | apply Below.alloc | apply Below.setCell)) <;> (simp <;> omega))⟩

end Go.Proofs.YtbkpdapagfjmmaaGreatDoor

/-
  Walks: Feed, the document's.
-/
namespace Go.Proofs.YtbkpdapagfjmmaaGreatDoor
open Go.RowKit

theorem info_rframe : (Tryz.prog.info? 66).map (fun i => (i.zero, i.size, i.bytes)) = some (some (.agg #[.int .i64 0, .int .i64 0, .string ⟨#[]⟩]), 3, 32) := by kernel_rfl

/-- The size of the string in cell 0 of a block. -/
def restOf (b : Nat) (w : World) : Nat := match w.cell? ⟨b, 0, none⟩ with
  | some (.string s) => s.size
  | _ => 0

theorem restOf_is {b : Nat} {w : World} {T : TypeId} {s : ByteArray} {z : Value} (h : Is w b T [.string s, z]) : restOf b w = s.size := by
  unfold restOf
  rw [h.cell 0]
  simp

set_option maxHeartbeats 1000000 in
set_option maxRecDepth 100000 in
theorem refFeed_ok (b : Nat) (s t : ByteArray) (w : World) (hsz : s.size + t.size ≤ 2 ^ 40)
    (hI : Is w b 54 [.string s, .int .i64 0]) :
    Calls Tryz.prog 21 #[.pointer (some ⟨b, 0, none⟩), .string t] w fun e w' =>
      ∃ v, e = .returned (.tuple #[v, .int .i64 ((Lk.all (s.data.toList ++ t.data.toList)).2.1 : Int)])
        ∧ w'.ownsRow w.heap.size 66 3 v (Lk.all (s.data.toList ++ t.data.toList)).1.length (framesV (Lk.all (s.data.toList ++ t.data.toList)).1)
        ∧ (∃ R : ByteArray, Is w' b 54 [.string R, .int .i64 ((Lk.all (s.data.toList ++ t.data.toList)).2.1 : Int)] ∧ ((Lk.all (s.data.toList ++ t.data.toList)).2.1 = 0 → R.data.toList = (Lk.all (s.data.toList ++ t.data.toList)).2.2))
        ∧ Turns b w w' := by
  have hSl : (s ++ t).data.toList = s.data.toList ++ t.data.toList := by simp
  have hSz : (s ++ t).size = s.size + t.size := by simp
  have hadd : s.size + t.size ≤ 9223372036854775807 := by omega
  rw [← hSl]
  clear hSl
  have c0 : w.cell? ⟨b, 0, none⟩ = some (.string s) := hI.cell 0
  have c1 : w.cell? ⟨b, 1, none⟩ = some (.int .i64 0) := hI.cell 1
  have f0 : w.frozen? ⟨b, 0, none⟩ = false := hI.free 0
  have hbl := hI.lt
  obtain ⟨i, hi, hz0, hz1, hz2⟩ := info_parts info_rframe
  go_enter Tryz.func21, Tryz.ntmps21
  go_wp2_with fail
  have hI1 := hI.set 0 (.string (s ++ t))
  have hT1 := (Turns.refl b w).set 0 (.string (s ++ t))
  generalize hSS : (s ++ t) = S at *
  have HSS := hide hSS
  clear hSS
  generalize hL : S.data.toList = L
  have HL := hide hL
  have hLl : L.length = S.size := by rw [← hL, size_list]
  go_loopw [6] (fun v wr => ∃ (p : Nat) (fs : List Lk.Fr) (R : ByteArray), Hid (R.data.toList = L.drop p) ∧ R.size ≤ 2 ^ 40 ∧ Fed L p fs ∧ p ≤ L.length ∧ Is wr b 54 [.string R, .int .i64 0] ∧ wr.ownsRow w.heap.size 66 3 v fs.length (framesV fs) ∧ Turns b w wr) (fun _ wr => restOf b wr)
  case atStart => exact ⟨0, [], S, by rw [hL]; rfl, by omega, Fed.start _, Nat.zero_le _, hI1, World.ownsRow_nil _ _ _ _, hT1⟩
  case round =>
    clear hL hI1 hT1 hI c0 c1 f0
    obtain ⟨p, fs, R, HR, hR40, hfed, hp, hIr, hown, hTr⟩ := hrel
    have d0 := hIr.cell 0
    simp only [List.getElem?_cons_zero] at d0
    go_wp2_with fail
    refine (refnext_any R _ (by omega)).mono ?_
    rw [unhide HR]
    rintro e w1 ⟨⟨a, b', c, n, e', rfl, hnext⟩, hb1⟩
    have hI1 := hIr.below hb1 hIr.lt
    have hT1 := hTr.below hb1
    have hown1 := kept_turns hown hbl ((Turns.refl b _).below hb1)
    have hRl : R.size = L.length - p := by rw [size_list, unhide HR, List.length_drop]
    have e0 := hI1.cell 0
    have e1 := hI1.cell 1
    have g0 := hI1.free 0
    have g1 := hI1.free 1
    simp only [List.getElem?_cons_zero, List.getElem?_cons_succ] at e0 e1
    have hlt := hI1.lt
    clear hown hTr d0 hb1
    rcases hnext with ⟨hx, rfl, rfl⟩ | ⟨k, hx, rfl, rfl⟩ | ⟨k, st, d, j, hx, rfl, rfl, rfl, rfl, rfl⟩
    · have HALL := hide (hfed.more hx)
      clear hx hfed hRl
      go_wp2_with fail
      go_ret2
      rw [unhide HSS, unhide HL, unhide HALL]
      exact ⟨_, rfl, (kept_turns hown1 hbl ((Turns.refl b _).set 1 _)).alloc _, ⟨R, (hI1.set 1 _).alloc _, fun _ => unhide HR⟩, (hT1.set 1 _).alloc _⟩
    · have HALL := hide (hfed.err hx)
      have hk := Lk.nx_err_pos hx
      have hk' : ((k : Int) != 0) = true := by rw [bne_iff_ne]; omega
      clear hx hfed hRl
      go_wp2_with fail
      go_ret2
      rw [unhide HSS, unhide HL, unhide HALL]
      exact ⟨_, rfl, (kept_turns hown1 hbl ((Turns.refl b _).set 1 _)).alloc _, ⟨R, (hI1.set 1 _).alloc _, fun h => absurd h hk⟩, (hT1.set 1 _).alloc _⟩
    · have hbd := Lk.nx_frame_bounds hx
      rw [List.length_drop] at hbd
      have hfed2 := hfed.next hx
      have hfl := hfed2.2
      simp only [List.length_append, List.length_cons, List.length_nil] at hfl
      have hj0 : ((j : Int) == 0) = false := by rw [beq_eq_false_iff_ne]; omega
      have hjs : (j : Int) ≤ R.size := by omega
      have hRd : (R.extract j R.size).data.toList = L.drop (p + j) := by
        rw [extract_end, ← List.drop_drop, ← unhide HR]
      have hRz : (R.extract j R.size).size = R.size - j := by rw [ByteArray.size_extract]; omega
      have HRD := hide hRd
      have HRZ := hide hRz
      have HRL := hide hRl
      clear hRd hRz hRl hx hfed
      go_wp2_with (at_builtin; refine wpList_append_own _ rfl _ _ 59 rfl w.heap.size 66 i _ 3 32 Tryz.underlying59 hi hz0 hz1 hz2 rfl (by decide) _ fs.length (framesV fs) rfl ((hown1.alloc _).alloc _) ⟨w1.heap.size + 1, 0, none⟩ 1 1 [.int .i64 (k : Int), .int .i64 (st : Int), .string ⟨d.toArray⟩] rfl rfl ?hnews ?h1 ?h63 ?hby ?hba ?_)
      case hnews =>
        have e := cells_three (w1.alloc (.cells #[.int .i64 (k : Int), .int .i64 (st : Int), .string ⟨d.toArray⟩] 66)) (.int .i64 (k : Int)) (.int .i64 (st : Int)) (.string ⟨d.toArray⟩) 66
        simpa using e
      case h1 => simp [Value.oneCell']
      case h63 => unfold maxLen; omega
      case hby => omega
      case hba => have := hT1.size; simp; omega
      intro v2 w2 ho2 hg2 _
      have hrow : ∀ j, Value.ownBlock u6 = some j → w.heap.size ≤ j := fun j hj => (hown1.lt j hj).1
      have hI3 := ((hI1.alloc (.cells #[.int .i64 (k : Int), .int .i64 (st : Int), .string ⟨d.toArray⟩] 66)).alloc (.cells #[.int .i64 (k : Int), .int .i64 (st : Int), .string ⟨d.toArray⟩] 66)).grown hg2 (fun e => by have := hrow b e.symm; omega)
      have hT3 := ((hT1.alloc (.cells #[.int .i64 (k : Int), .int .i64 (st : Int), .string ⟨d.toArray⟩] 66)).alloc (.cells #[.int .i64 (k : Int), .int .i64 (st : Int), .string ⟨d.toArray⟩] 66)).grownNew hg2 hrow
      have e3 := framesV_snoc fs ⟨k, st, d⟩
      rw [e3] at ho2
      clear e3 hI1 hT1 hown1 hg2 hrow e0 e1 g0 g1
      have e0 := hI3.cell 0
      have g0 := hI3.free 0
      simp only [List.getElem?_cons_zero] at e0
      go_wp2_with fail
      go_roundw
      case rel => exact ⟨p + j, fs ++ [⟨k, st, d⟩], R.extract j R.size, HRD, by have := unhide HRZ; omega, hfed2, by omega, hI3.set 0 _, by simpa using kept_turns ho2 hbl ((Turns.refl b _).set 0 _), hT3.set 0 _⟩
      case measure =>
        rw [restOf_is (hI3.set 0 _), restOf_is hIr]
        have := unhide HRZ
        omega

/-- Behind an error nothing is read. -/
theorem refFeed_bad (b : Nat) (s t : ByteArray) (f : Int) (w : World) (hf : f ≠ 0)
    (hI : Is w b 54 [.string s, .int .i64 f]) :
    Calls Tryz.prog 21 #[.pointer (some ⟨b, 0, none⟩), .string t] w fun e w' =>
      e = .returned (.tuple #[.slice none 0 0, .int .i64 f]) ∧ ∃ n, w' = w.drewN n := by
  have c1 : w.cell? ⟨b, 1, none⟩ = some (.int .i64 f) := hI.cell 1
  have hf' : (f != 0) = true := by rw [bne_iff_ne]; exact hf
  clear hI hf
  go_enter Tryz.func21, Tryz.ntmps21
  go_wp2_with fail
  go_quiet (fail)
  go_wp2_with fail
  go_ret2
  exact ⟨rfl, _, rfl⟩

end Go.Proofs.YtbkpdapagfjmmaaGreatDoor

/-
  Walks: are the frames the same?
-/
namespace Go.Proofs.YtbkpdapagfjmmaaGreatDoor
open Go.RowKit

set_option maxHeartbeats 1000000 in
set_option maxRecDepth 100000 in
theorem same_any (w : World) (fs : List Lk.Fr) (Ba Bb : Nat) (va vb : Value) (hl : fs.length ≤ 2 ^ 40) (ha : w.ownsRow Ba 79 3 va fs.length (framesV fs)) (hb : w.ownsRow Bb 66 3 vb fs.length (framesV fs)) :
    Calls Tryz.prog 57 #[va, vb] w fun e w' => e = .returned (.bool true) ∧ ∃ n, w' = w.drewN n := by
  rcases owned_frames ha with ⟨rfl, rfl⟩ | ⟨g, cap, rfl, _, _, hcap, hca⟩
  · rcases owned_frames hb with ⟨_, rfl⟩ | ⟨g', cap', rfl, _, _, hcap', hcb⟩
    all_goals
      clear ha hb
      go_enter Tryz.func57, Tryz.ntmps57
      go_wp2_with fail
      refine wp_loop_rounds 1 ?_
      rw [rounds_succ]
      go_wp2_with fail
      go_ret
      exact ⟨rfl, 0, rfl⟩
  · rcases owned_frames hb with ⟨rfl, rfl⟩ | ⟨g', cap', rfl, _, _, hcap', hcb⟩
    · clear ha hb
      go_enter Tryz.func57, Tryz.ntmps57
      go_wp2_with fail
      refine wp_loop_rounds 1 ?_
      rw [rounds_succ]
      go_wp2_with fail
      go_ret
      exact ⟨rfl, 0, rfl⟩
    · clear ha hb
      go_enter Tryz.func57, Tryz.ntmps57
      go_wp2_with fail
      go_loopw [5] (fun i wr => ∃ k n : Nat, k ≤ fs.length ∧ i = .int .i64 k ∧ wr = w.drewN n) (fun i _ => fs.length - (intOf i).toNat)
      case atStart => exact ⟨0, 0, Nat.zero_le _, rfl, rfl⟩
      case round =>
        obtain ⟨k, n, hk, rfl, rfl⟩ := hrel
        by_cases hlt : k < fs.length
        · obtain ⟨a0, a1, a2⟩ := hca k hlt
          obtain ⟨b0, b1, b2⟩ := hcb k hlt
          have hlt' : (k : Int) < fs.length := by omega
          generalize fs[k] = f at *
          obtain ⟨fk, fst, fd⟩ := f
          dsimp only at a0 a1 a2 b0 b1 b2
          clear hca hcb
          go_wp2_with fail
          go_quiet (fail)
          go_wp2_with fail
          go_roundw
          case rel => exact ⟨k + 1, _, by omega, by go_num, rfl⟩
          case measure => simp [intOf]; omega
        · have hlt' : ¬ (k : Int) < fs.length := by omega
          clear hca hcb
          go_wp2_with fail
          go_ret
          exact ⟨rfl, _, rfl⟩

end Go.Proofs.YtbkpdapagfjmmaaGreatDoor
