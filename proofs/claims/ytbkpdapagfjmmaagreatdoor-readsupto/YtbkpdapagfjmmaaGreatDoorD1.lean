/-
  Walks: the document's next.
-/
import Derived.Test.YtbkpdapagfjmmaaGreatDoorR4
namespace Go.Proofs.YtbkpdapagfjmmaaGreatDoor
open Go.RowKit

/-- What the document's next answers. -/
def NextIs (x : Lk.Nx) (a b : Int) (c : ByteArray) (n e : Int) : Prop :=
  (x = .more ∧ n = 0 ∧ e = 0) ∨ (∃ k : Nat, x = .err k ∧ n = 0 ∧ e = k) ∨ (∃ (k st : Nat) (d : Lk.Bs) (j : Nat), x = .frame k st d j ∧ a = k ∧ b = st ∧ c = ⟨d.toArray⟩ ∧ n = j ∧ e = 0)

theorem NextIs.more {x : Lk.Nx} {a b : Int} {c : ByteArray} (h : x = .more) : NextIs x a b c 0 0 := Or.inl ⟨h, rfl, rfl⟩
theorem NextIs.err {x : Lk.Nx} {a b : Int} {c : ByteArray} {k : Nat} {e : Int} (h : x = .err k) (he : e = k) : NextIs x a b c 0 e := Or.inr (Or.inl ⟨k, h, rfl, he⟩)

theorem refnumber_at (s : ByteArray) (z : Int) (i : Nat) (w : World) (hz : z = i) (hs : s.size ≤ 2 ^ 62) (hi : i ≤ s.size) :
    Calls Tryz.prog 84 #[.string s, .int .i64 z] w fun e w' =>
      e = .returned (.agg #[.int .i64 (Lk.rd 0 0 (s.data.toList.drop i)).val, .int .i64 ((Lk.rd 0 0 (s.data.toList.drop i)).next i), .int .i64 ((Lk.rd 0 0 (s.data.toList.drop i)).badAt i), .bool (Lk.rd 0 0 (s.data.toList.drop i)).isShort])
      ∧ Below w.heap.size w w' := by
  subst hz
  exact refnumber_any s i w hs hi

set_option maxHeartbeats 4000000 in
set_option maxRecDepth 100000 in
theorem refnext_any (s : ByteArray) (w : World) (hs : s.size ≤ 2 ^ 41) :
    Calls Tryz.prog 46 #[.string s] w fun e w' =>
      (∃ (a b : Int) (c : ByteArray) (n e' : Int), e = .returned (.tuple #[.agg #[.int .i64 a, .int .i64 b, .string c], .int .i64 n, .int .i64 e']) ∧ NextIs (Lk.nx s.data.toList) a b c n e') ∧ Below w.heap.size w w' := by
  by_cases hlt : 0 < s.size
  · have hcons := drop_cons s 0 hlt
    rw [List.drop_zero] at hcons
    rw [hcons]
    have hemp := isEmpty_of s hlt
    have hz0 : (0 : Int) < s.size := by omega
    by_cases h7 : 7 < s[0].toNat
    · have hnx : Lk.nx (s[0] :: s.data.toList.drop (0 + 1)) = .err 3 := by rw [Lk.nx, if_pos h7]
      have HX := hide hnx
      have hw := wrap64_byte' s[0]
      clear hnx hcons
      go_enter Tryz.func46, Tryz.ntmps46
      go_wp2_with fail
      have hfin := NextIs.err (a := (s[0].toNat : Int)) (b := 0) (c := ⟨#[]⟩) (e := 3) (unhide HX) rfl
      exact bodyPost_ret (v := .tuple #[.agg #[.int .i64 (s[0].toNat : Int), .int .i64 0, .string ⟨#[]⟩], .int .i64 0, .int .i64 3]) (by simp [results, Tryz.results46, go_sem]) rfl ⟨⟨_, _, _, _, _, rfl, hfin⟩, by ((repeat' (first | exact Below.refl _ _ | assumption | apply Below.drew | apply Below.alloc | apply Below.setCell)) <;> (simp <;> omega))⟩
    · generalize hl : s.data.toList.drop (0 + 1) = t
      have hlen : t.length = s.size - 1 := by rw [← hl, List.length_drop, ← size_list]
      have HL := hide hl
      clear hl hcons
      generalize hx : Lk.nx (s[0] :: t) = x
      have HX := hide hx
      have hw := wrap64_byte' s[0]
      clear hx
      have hA0 := (Is.new w 66 [.int .i64 0, .int .i64 0, .string ⟨#[]⟩]).alloc (.cells #[.int .i64 (s[0].toNat : Int), .int .i64 0, .string ⟨#[]⟩] 66)
      have hB0 := Is.new (w.alloc (.cells #[.int .i64 0, .int .i64 0, .string ⟨#[]⟩] 66)) 66 [.int .i64 (s[0].toNat : Int), .int .i64 0, .string ⟨#[]⟩]
      have hb0 : Below w.heap.size w ((w.alloc (.cells #[.int .i64 0, .int .i64 0, .string ⟨#[]⟩] 66)).alloc (.cells #[.int .i64 (s[0].toNat : Int), .int .i64 0, .string ⟨#[]⟩] 66)) := by ((repeat' (first | exact Below.refl _ _ | assumption | apply Below.drew | apply Below.alloc | apply Below.setCell)) <;> (simp <;> omega))
      rw [World.size_alloc] at hB0
      go_enter Tryz.func46, Tryz.ntmps46
      go_wp2_with fail
      refine (refnumber_at s _ 1 _ rfl (by omega) (by omega)).mono ?_
      rw [show s.data.toList.drop 1 = t from unhide HL]
      rintro e w1 ⟨rfl, hb1⟩
      have hA1 := hA0.below hb1 (by simp <;> omega)
      have hB1 := hB0.below hb1 (by simp <;> omega)
      have hbw1 : Below w.heap.size w w1 := hb0.trans (hb1.mono (by simp <;> omega))
      have hz1 : w.heap.size + 1 < w1.heap.size := hB1.lt
      have hz2 : w.heap.size < w1.heap.size := hA1.lt
      clear hA0 hB0 hb0 hb1
      have a0 := hA1.cell 0
      have a1 := hA1.cell 1
      have a2 := hA1.cell 2
      have fa0 := hA1.free 0
      have fa1 := hA1.free 1
      have fa2 := hA1.free 2
      simp only [List.getElem?_cons_zero, List.getElem?_cons_succ] at a0 a1 a2
      have b0 := hB1.cell 0
      have b1 := hB1.cell 1
      have b2 := hB1.cell 2
      have fb0 := hB1.free 0
      have fb1 := hB1.free 1
      have fb2 := hB1.free 2
      simp only [List.getElem?_cons_zero, List.getElem?_cons_succ] at b0 b1 b2
      cases hr : Lk.rd 0 0 t with
      | short =>
        have e1 := nx_short1 h7 hr
        rw [unhide HX] at e1
        subst e1
        simp only [Lk.Rd.val, Lk.Rd.next, Lk.Rd.badAt, Lk.Rd.isShort]
        clear hr
        go_wp2_with fail
        exact bodyPost_ret (v := .tuple #[.agg #[.int .i64 (s[0].toNat : Int), .int .i64 0, .string ⟨#[]⟩], .int .i64 0, .int .i64 0]) (by simp [results, Tryz.results46, go_sem, hz2, a0, a1, a2]) rfl ⟨⟨_, _, _, _, _, rfl, .more rfl⟩, by ((repeat' (first | exact Below.refl _ _ | assumption | apply Below.drew | apply Below.alloc | apply Below.setCell)) <;> (simp <;> omega))⟩
      | bad k =>
        have e1 := nx_bad1 h7 hr
        rw [unhide HX] at e1
        subst e1
        simp only [Lk.Rd.val, Lk.Rd.next, Lk.Rd.badAt, Lk.Rd.isShort]
        clear hr
        go_wp2_with fail
        exact bodyPost_ret (v := .tuple #[.agg #[.int .i64 (s[0].toNat : Int), .int .i64 0, .string ⟨#[]⟩], .int .i64 0, .int .i64 2]) (by simp [results, Tryz.results46, go_sem, hz2, a0, a1, a2]) rfl ⟨⟨_, _, _, _, _, rfl, .err rfl rfl⟩, by ((repeat' (first | exact Below.refl _ _ | assumption | apply Below.drew | apply Below.alloc | apply Below.setCell)) <;> (simp <;> omega))⟩
      | ok st a =>
        have ha := Lk.rd_ok_bounds t 0 0 st a hr
        have hst := rd_lt t 0 0 st a (by omega) (by omega) hr
        have HR := hide hr
        simp only [Lk.Rd.val, Lk.Rd.next, Lk.Rd.badAt, Lk.Rd.isShort]
        clear hr
        have hst' : (st : Int) ≤ 268435455 := by omega
        by_cases hsf : Lk.streamFits s[0].toNat st = false
        · have e1 := nx_stream h7 (unhide HR) hsf
          rw [unhide HX] at e1
          subst e1
          have HS := hide hsf
          clear hsf
          go_wp2_with fail
          refine (streamFits_any _ _ _).mono ?_
          rw [unhide HS]
          rintro e w2 ⟨rfl, rfl⟩
          go_wp2_with fail
          exact bodyPost_ret (v := .tuple #[.agg #[.int .i64 (s[0].toNat : Int), .int .i64 (st : Int), .string ⟨#[]⟩], .int .i64 0, .int .i64 4]) (by simp [results, Tryz.results46, go_sem, hz2, a0, a1, a2]) rfl ⟨⟨_, _, _, _, _, rfl, .err rfl rfl⟩, by ((repeat' (first | exact Below.refl _ _ | assumption | apply Below.drew | apply Below.alloc | apply Below.setCell)) <;> (simp <;> omega))⟩
        have HSF := hide hsf
        have hsf' : Lk.streamFits s[0].toNat st = true := by simpa using hsf
        have HS := hide hsf'
        clear hsf hsf'
        go_wp2_with fail
        refine (streamFits_any _ _ _).mono ?_
        rw [unhide HS]
        rintro e w2 ⟨rfl, rfl⟩
        go_wp2_with fail
        have hA2 := (hA1.other ⟨w.heap.size + 1, 1, none⟩ (.int .i64 (st : Int)) (by simp)).alloc (.cells #[.int .i64 (st : Int), .int .i64 (1 + (a : Int)), .int .i64 (-1), .bool false] 187)
        have hB2 := (hB1.set 1 (.int .i64 (st : Int))).alloc (.cells #[.int .i64 (st : Int), .int .i64 (1 + (a : Int)), .int .i64 (-1), .bool false] 187)
        have hbw2 := (hbw1.setCell (p := ⟨w.heap.size + 1, 1, none⟩) (by simp) (.int .i64 (st : Int))).alloc (by simp; omega) (.cells #[.int .i64 (st : Int), .int .i64 (1 + (a : Int)), .int .i64 (-1), .bool false] 187)
        refine (refnumber_at s _ (1 + a) _ (by simp) (by omega) (by omega)).mono ?_
        rw [← List.drop_drop, show s.data.toList.drop 1 = t from unhide HL]
        rintro e w3 ⟨rfl, hb3⟩
        have hA3 := hA2.below hb3 hA2.lt
        have hB3 := hB2.below hb3 hB2.lt
        have hbw3 : Below w.heap.size w w3 := hbw2.trans (hb3.mono hbw2.size)
        clear a0 a1 a2 fa0 fa1 fa2 b0 b1 b2 fb0 fb1 fb2 hz1 hz2
        clear hA1 hB1 hbw1 hA2 hB2 hbw2 hb3
        simp only [List.set_cons_succ, List.set_cons_zero] at hB3
        have hz1 : w.heap.size + 1 < w3.heap.size := hB3.lt
        have hz2 : w.heap.size < w3.heap.size := hA3.lt
        have a0 := hA3.cell 0
        have a1 := hA3.cell 1
        have a2 := hA3.cell 2
        have fa0 := hA3.free 0
        have fa1 := hA3.free 1
        have fa2 := hA3.free 2
        simp only [List.getElem?_cons_zero, List.getElem?_cons_succ] at a0 a1 a2
        have b0 := hB3.cell 0
        have b1 := hB3.cell 1
        have b2 := hB3.cell 2
        have fb0 := hB3.free 0
        have fb1 := hB3.free 1
        have fb2 := hB3.free 2
        simp only [List.getElem?_cons_zero, List.getElem?_cons_succ] at b0 b1 b2
        cases hr : Lk.rd 0 0 (t.drop a) with
        | short =>
          have e1 := nx_short2 h7 (unhide HR) (unhide HSF) hr
          rw [unhide HX] at e1
          subst e1
          simp only [Lk.Rd.val, Lk.Rd.next, Lk.Rd.badAt, Lk.Rd.isShort]
          clear hr
          go_wp2_with fail
          exact bodyPost_ret (v := .tuple #[.agg #[.int .i64 (s[0].toNat : Int), .int .i64 (st : Int), .string ⟨#[]⟩], .int .i64 0, .int .i64 0]) (by simp [results, Tryz.results46, go_sem, hz2, a0, a1, a2]) rfl ⟨⟨_, _, _, _, _, rfl, .more rfl⟩, by ((repeat' (first | exact Below.refl _ _ | assumption | apply Below.drew | apply Below.alloc | apply Below.setCell)) <;> (simp <;> omega))⟩
        | bad k =>
          have e1 := nx_bad2 h7 (unhide HR) (unhide HSF) hr
          rw [unhide HX] at e1
          subst e1
          simp only [Lk.Rd.val, Lk.Rd.next, Lk.Rd.badAt, Lk.Rd.isShort]
          clear hr
          go_wp2_with fail
          exact bodyPost_ret (v := .tuple #[.agg #[.int .i64 (s[0].toNat : Int), .int .i64 (st : Int), .string ⟨#[]⟩], .int .i64 0, .int .i64 2]) (by simp [results, Tryz.results46, go_sem, hz2, a0, a1, a2]) rfl ⟨⟨_, _, _, _, _, rfl, .err rfl rfl⟩, by ((repeat' (first | exact Below.refl _ _ | assumption | apply Below.drew | apply Below.alloc | apply Below.setCell)) <;> (simp <;> omega))⟩
        | ok n m =>
          have hm := Lk.rd_ok_bounds _ 0 0 n m hr
          rw [List.length_drop] at hm
          have HR2 := hide hr
          simp only [Lk.Rd.val, Lk.Rd.next, Lk.Rd.badAt, Lk.Rd.isShort]
          clear hr
          by_cases h64 : 64 < n
          · have e1 := nx_large h7 (unhide HR) (unhide HSF) (unhide HR2) h64
            rw [unhide HX] at e1
            subst e1
            have h64' : (64 : Int) < n := by omega
            go_wp2_with fail
            exact bodyPost_ret (v := .tuple #[.agg #[.int .i64 (s[0].toNat : Int), .int .i64 (st : Int), .string ⟨#[]⟩], .int .i64 0, .int .i64 5]) (by simp [results, Tryz.results46, go_sem, hz2, a0, a1, a2]) rfl ⟨⟨_, _, _, _, _, rfl, .err rfl rfl⟩, by ((repeat' (first | exact Below.refl _ _ | assumption | apply Below.drew | apply Below.alloc | apply Below.setCell)) <;> (simp <;> omega))⟩
          have h64' : ¬ (64 : Int) < n := by omega
          by_cases hlf : Lk.lengthFits s[0].toNat n = false
          · have e1 := nx_length h7 (unhide HR) (unhide HSF) (unhide HR2) h64 hlf
            rw [unhide HX] at e1
            subst e1
            have HF := hide hlf
            clear hlf
            go_wp2_with fail
            refine (lengthFits_any _ _ _).mono ?_
            rw [unhide HF]
            rintro e w4 ⟨rfl, rfl⟩
            go_wp2_with fail
            exact bodyPost_ret (v := .tuple #[.agg #[.int .i64 (s[0].toNat : Int), .int .i64 (st : Int), .string ⟨#[]⟩], .int .i64 0, .int .i64 6]) (by simp [results, Tryz.results46, go_sem, hz2, a0, a1, a2]) rfl ⟨⟨_, _, _, _, _, rfl, .err rfl rfl⟩, by ((repeat' (first | exact Below.refl _ _ | assumption | apply Below.drew | apply Below.alloc | apply Below.setCell)) <;> (simp <;> omega))⟩
          have HLF := hide hlf
          have hlf' : Lk.lengthFits s[0].toNat n = true := by simpa using hlf
          have HF := hide hlf'
          clear hlf hlf'
          by_cases htk : t.length < a + m + n
          · have e1 := nx_wait h7 (unhide HR) (unhide HSF) (unhide HR2) h64 (unhide HLF) htk
            rw [unhide HX] at e1
            subst e1
            have htk' : (s.size : Int) < 1 + a + m + n := by omega
            go_wp2_with fail
            refine (lengthFits_any _ _ _).mono ?_
            rw [unhide HF]
            rintro e w4 ⟨rfl, rfl⟩
            go_wp2_with fail
            exact bodyPost_ret (v := .tuple #[.agg #[.int .i64 (s[0].toNat : Int), .int .i64 (st : Int), .string ⟨#[]⟩], .int .i64 0, .int .i64 0]) (by simp [results, Tryz.results46, go_sem, hz2, a0, a1, a2]) rfl ⟨⟨_, _, _, _, _, rfl, .more rfl⟩, by ((repeat' (first | exact Below.refl _ _ | assumption | apply Below.drew | apply Below.alloc | apply Below.setCell)) <;> (simp <;> omega))⟩
          have htk' : ¬ (s.size : Int) < 1 + a + m + n := by omega
          have htk2 : (1 : Int) + a + m ≤ 1 + a + m + n := by omega
          go_wp2_with fail
          refine (lengthFits_any _ _ _).mono ?_
          rw [unhide HF]
          rintro e w4 ⟨rfl, rfl⟩
          go_wp2_with fail
          have hdata : (s.extract (1 + a + m) (1 + a + m + n)).data.toList = (t.drop (a + m)).take n := by
            rw [← unhide HL, List.drop_drop, extract_list]
            congr 2 <;> omega
          have hdsz : (s.extract (1 + a + m) (1 + a + m + n)).size = n := by rw [ByteArray.size_extract]; omega
          have hdv : s.extract (1 + a + m) (1 + a + m + n) = ⟨((t.drop (a + m)).take n).toArray⟩ := by rw [← hdata]
          have HDV := hide hdv
          clear hdv
          generalize s.extract (1 + a + m) (1 + a + m + n) = d at *
          have hA4 := (hA3.other ⟨w.heap.size + 1, 2, none⟩ (.string d) (by simp)).alloc (.cells #[.int .i64 (n : Int), .int .i64 (1 + (a : Int) + m), .int .i64 (-1), .bool false] 187)
          have hB4 := (hB3.set 2 (.string d)).alloc (.cells #[.int .i64 (n : Int), .int .i64 (1 + (a : Int) + m), .int .i64 (-1), .bool false] 187)
          have hF4 := Is.new (w3.setCell ⟨w.heap.size + 1, 2, none⟩ (.string d)) 187 [.int .i64 (n : Int), .int .i64 (1 + (a : Int) + m), .int .i64 (-1), .bool false]
          have hbw4 := (hbw3.setCell (p := ⟨w.heap.size + 1, 2, none⟩) (by simp) (.string d)).alloc (by simp; omega) (.cells #[.int .i64 (n : Int), .int .i64 (1 + (a : Int) + m), .int .i64 (-1), .bool false] 187)
          refine (payloadFits_any _ d _ (by omega)).mono ?_
          rw [hdata]
          clear hdata
          rintro e w5 ⟨rfl, hb5⟩
          have hA5 := hA4.below hb5 hA4.lt
          have hB5 := hB4.below hb5 hB4.lt
          have hF5 := hF4.below hb5 hF4.lt
          have hbw5 : Below w.heap.size w w5 := hbw4.trans (hb5.mono hbw4.size)
          rw [World.size_setCell] at hF5
          have hz3 : w.heap.size < w3.heap.size := hz2
          have hn3 : ¬ w.heap.size = w3.heap.size := Nat.ne_of_lt hz2
          have hn4 : ¬ w3.heap.size = w.heap.size := Nat.ne_of_gt hz2
          clear a0 a1 a2 fa0 fa1 fa2 b0 b1 b2 fb0 fb1 fb2 hz1 hz2
          clear hA3 hB3 hbw3 hA4 hB4 hF4 hbw4 hb5
          simp only [List.set_cons_succ, List.set_cons_zero] at hB5
          have hz1 : w.heap.size + 1 < w5.heap.size := hB5.lt
          have hz2 : w.heap.size < w5.heap.size := hA5.lt
          have a0 := hA5.cell 0
          have a1 := hA5.cell 1
          have a2 := hA5.cell 2
          have fa0 := hA5.free 0
          have fa1 := hA5.free 1
          have fa2 := hA5.free 2
          simp only [List.getElem?_cons_zero, List.getElem?_cons_succ] at a0 a1 a2
          have b0 := hB5.cell 0
          have b1 := hB5.cell 1
          have b2 := hB5.cell 2
          have fb0 := hB5.free 0
          have fb1 := hB5.free 1
          have fb2 := hB5.free 2
          simp only [List.getElem?_cons_zero, List.getElem?_cons_succ] at b0 b1 b2
          have c0 := hF5.cell 0
          have c1 := hF5.cell 1
          have c2 := hF5.cell 2
          have c3 := hF5.cell 3
          simp only [List.getElem?_cons_zero, List.getElem?_cons_succ] at c0 c1 c2 c3
          by_cases hpf : Lk.payloadFits s[0].toNat ((t.drop (a + m)).take n) = false
          · have e1 := nx_payload h7 (unhide HR) (unhide HSF) (unhide HR2) h64 (unhide HLF) htk hpf
            rw [unhide HX] at e1
            subst e1
            rw [hpf]
            clear hpf
            go_wp2_with fail
            exact bodyPost_ret (v := .tuple #[.agg #[.int .i64 (s[0].toNat : Int), .int .i64 (st : Int), .string d], .int .i64 0, .int .i64 6]) (by simp [results, Tryz.results46, go_sem, a0, a1, a2]) rfl ⟨⟨_, _, _, _, _, rfl, .err rfl rfl⟩, by ((repeat' (first | exact Below.refl _ _ | assumption | apply Below.drew | apply Below.alloc | apply Below.setCell)) <;> (simp <;> omega))⟩
          have e1 := nx_frame h7 (unhide HR) (unhide HSF) (unhide HR2) h64 (unhide HLF) htk hpf
          rw [unhide HX] at e1
          have hpf' : Lk.payloadFits s[0].toNat ((t.drop (a + m)).take n) = true := by simpa using hpf
          rw [hpf']
          have hfin : NextIs x (s[0].toNat : Int) (st : Int) d (1 + (a : Int) + m + n) 0 := by
            refine Or.inr (Or.inr ⟨_, _, _, _, e1, rfl, rfl, unhide HDV, ?_, rfl⟩)
            simp
          have HFIN := hide hfin
          clear hpf hpf' e1 hfin
          go_wp2_with fail
          go_region
          all_goals go_wp2_with fail
          all_goals exact bodyPost_ret (v := .tuple #[.agg #[.int .i64 (s[0].toNat : Int), .int .i64 (st : Int), .string d], .int .i64 (1 + (a : Int) + m + n), .int .i64 0]) (by simp [results, Tryz.results46, go_sem, a0, a1, a2]) rfl ⟨⟨_, _, _, _, _, rfl, unhide HFIN⟩, by ((repeat' (first | exact Below.refl _ _ | assumption | apply Below.drew | apply Below.alloc | apply Below.setCell)) <;> (simp <;> omega))⟩
  · obtain rfl := empty_of s (by omega)
    go_enter Tryz.func46, Tryz.ntmps46
    go_wp2_with fail
    exact bodyPost_ret (v := .tuple #[.agg #[.int .i64 0, .int .i64 0, .string ⟨#[]⟩], .int .i64 0, .int .i64 0]) (by simp [results, Tryz.results46, go_sem]) rfl ⟨⟨_, _, _, _, _, rfl, .more rfl⟩, by ((repeat' (first | exact Below.refl _ _ | assumption | apply Below.drew | apply Below.alloc | apply Below.setCell)) <;> (simp <;> omega))⟩

end Go.Proofs.YtbkpdapagfjmmaaGreatDoor
