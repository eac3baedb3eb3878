import Derived.Test.YtbkpdapagfjmmaaGreatDoorMJ7J8
import Derived.Outline
import Derived.Test.YtbkpdapagfjmmaaGreatDoorMFQJ5
import Derived.Test.YtbkpdapagfjmmaaGreatDoorMU2PW
/-
  Walks: the steps of a pair: bytes are consumed.
-/
set_option linter.unusedVariables false
namespace Go.Proofs.YtbkpdapagfjmmaaGreatDoor
open Go.RowKit

/-- What becomes of the messages where bytes are consumed. -/
def ConR (cd : Nat) (ml ml' : Nat → List Ms) (j : Nat) (a c : Int) : Prop := (cd ≠ 0 ∧ ml' = ml) ∨ (cd = 0 ∧ ∃ (i : Nat) (x : Ms), (ml (j + 2))[i]? = some x ∧ a = 2 * (i : Int) + 1 + j ∧ 1 ≤ c ∧ ml' = upd ml (j + 2) ((ml (j + 2)).set i { x with et := x.et + c.toNat }))

set_option maxHeartbeats 4000000 in
set_option maxRecDepth 100000 in
theorem step_consume (w0 : World) (P g cap : Nat) (sd eb : Nat → Nat) (e : Nat → Lk.En) (d : Nat → PD) (mv : Nat → Value) (ml : Nat → List Ms) (pipe : Nat → Lk.Bs) (n k : Nat) (a b c : Int) (st tt : ByteArray) (ha : Option Addr) (hl hc : Nat) (rs : Bool) (w : World) (hk : k < 2) (hb : bits .and .i64 b 1 = (k : Int)) (hJ : JP w0 P g cap sd eb e d mv ml pipe w) (jj : Nat) (hjj : jj < 2) (hkjj : k ≠ jj) (ha1 : I64 a) (hgb : ∀ m ∈ ml (jj + 2), m.body.length ≤ 300) (hS : JS e pipe ml n) :
    Calls Tryz.prog 13 #[.pointer (some ⟨P, 0, none⟩), .agg #[.int .i64 10, .int .i64 a, .int .i64 b, .string st, .string tt, .int .i64 c, .slice ha hl hc], .bool rs] w fun r w' => r = .returned (.bool true) ∧ ∃ d' ml', JP w0 P g cap sd eb (upd e k ((e k).consumeC a c).2) d' mv ml' pipe w' ∧ JS (upd e k ((e k).consumeC a c).2) pipe ml' (n + 1) ∧ ConR ((e k).consumeC a c).1 ml ml' jj a c := by
  have hk1 : (k : Int) < 2 := by omega
  have hBx := Is.new w 33 [.int .i64 10, .int .i64 a, .int .i64 b, .string st, .string tt, .int .i64 c, .slice ha hl hc]
  have hbW := (Below.refl w.heap.size w).alloc (Nat.le_refl _) (.cells #[.int .i64 10, .int .i64 a, .int .i64 b, .string st, .string tt, .int .i64 c, .slice ha hl hc] 33)
  have hJ0 := hJ.below hbW
  have hftw : ∀ i, foot (eb k) (d k) i → i < w.heap.size := (hJ.pe k hk).lt
  have hwW : w.heap.size < (w.alloc (.cells #[.int .i64 10, .int .i64 a, .int .i64 b, .string st, .string tt, .int .i64 c, .slice ha hl hc] 33)).heap.size := by simp
  generalize hW : w.alloc (.cells #[.int .i64 10, .int .i64 a, .int .i64 b, .string st, .string tt, .int .i64 c, .slice ha hl hc] 33) = W at *
  have o0 : W.cell? ⟨w.heap.size, 0, none⟩ = some (.int .i64 10) := hBx.cell 0
  have o1 : W.cell? ⟨w.heap.size, 1, none⟩ = some (.int .i64 a) := hBx.cell 1
  have o2 : W.cell? ⟨w.heap.size, 2, none⟩ = some (.int .i64 b) := hBx.cell 2
  have o3 : W.cell? ⟨w.heap.size, 3, none⟩ = some (.string st) := hBx.cell 3
  have o5 : W.cell? ⟨w.heap.size, 5, none⟩ = some (.int .i64 c) := hBx.cell 5
  have o6 : W.cell? ⟨w.heap.size, 6, none⟩ = some (.slice ha hl hc) := hBx.cell 6
  have p0 : W.cell? ⟨P, 0, none⟩ = some (.slice (some ⟨g, 0, none⟩) 2 cap) := hJ0.pr.cell 0
  have pl := hJ0.pr.lt
  have rk : W.cell? ⟨g, k, none⟩ = some (.pointer (some ⟨sd k, 0, none⟩)) := pair_at hJ0.row hk
  have gl : g < W.heap.size := by obtain ⟨t, ht⟩ := hJ0.row; exact ht.lt
  have sk0 : W.cell? ⟨sd k, 0, none⟩ = some (.pointer (some ⟨eb k, 0, none⟩)) := (hJ0.side k hk).cell 0
  have skl := (hJ0.side k hk).lt
  have hcap := hJ0.cap2
  have hJd := hJ0.below (below_dn (Below.refl _ W) 1)
  obtain ⟨j, hj, hkj⟩ : ∃ j, j < 2 ∧ k ≠ j := ⟨1 - k, by omega, by omega⟩
  obtain rfl : jj = j := by omega
  have hjk : (1 : Int) - (k : Int) = (jj : Int) := by omega
  have hj1 : (jj : Int) < 2 := by omega
  have hcn := hS.consume hk hj hkj a c
  have hmk := hS.len (q := jj + 2) (by omega)
  have HI := hide (fun W' => index_wild a jj hj W' ha1.1 ha1.2)
  have HC := hide (consume_p (eb k) (e k) (d k) a c (W.drewN 1) (hJd.pe k hk) ha1)
  generalize ((e k).consumeC a c).1 = cd at *
  generalize ((e k).consumeC a c).2 = e' at *
  have HX := hide (⟨hBx, hJd, hftw, hcn⟩ : _ ∧ _ ∧ _ ∧ _)
  clear hJ hJ0 hJd hBx hbW hftw hcn hS
  go_enter Tryz.func13, Tryz.ntmps13
  go_wp2_with fail
  refine (unhide HI _).mono ?_
  rintro r w1 ⟨⟨ix, rfl, hix⟩, rfl⟩
  have HIX := hide hix
  clear hix HI
  go_wp2_with fail
  go_cut [14] (fun s14 wc => s14 = .int .i64 (cd : Int) ∧ Hid (PPost (w1.drewN 1) (eb k) (d k) e' wc))
  case first =>
    go_region_with (first | (go_at_call 31; refine (unhide HC).mono ?_; rintro r w2 ⟨rfl, hP⟩))
    all_goals
      go_wp2_with fail
      go_meet
      exact ⟨rfl, hP⟩
  case rest =>
    obtain ⟨rfl, HP⟩ := hcut
    obtain ⟨hBx, hJd, hftw, hcn⟩ := unhide HX
    obtain ⟨d', h1, h2, h3⟩ := unhide HP
    have hB2 := opx_keep hBx (drop1 h3) hftw
    have hJ3 := hJd.call hk h1 h2 h3
    by_cases h0 : cd = 0
    · subst h0
      rcases hcn with ⟨h, _⟩ | ⟨_, i, x, hx, hst, hc1, hle, hJS⟩
      · exact absurd rfl h
      have hil : i < (ml (jj + 2)).length := (List.getElem?_eq_some_iff.1 hx).1
      have hxi : (ml (jj + 2))[i] = x := (List.getElem?_eq_some_iff.1 hx).2
      have hixv : ix = (i : Int) := by rw [unhide HIX (by omega)]; exact ixN_of (by omega)
      subst hixv
      obtain ⟨gq, cq, hq, _, hgq, hqc, q0, q1, q2, q3, q4, q5, qf⟩ := owned_mss (hJ3.ms (jj + 2) (by omega)) hil
      rw [hxi] at q0 q1 q2 q3 q4 q5
      have z0 : wc.cell? ⟨P, 0, none⟩ = some (.slice (some ⟨g, 0, none⟩) 2 cap) := hJ3.pr.cell 0
      have zl := hJ3.pr.lt
      have rj : wc.cell? ⟨g, jj, none⟩ = some (.pointer (some ⟨sd jj, 0, none⟩)) := pair_at hJ3.row hj
      have zg : g < wc.heap.size := by obtain ⟨t, ht⟩ := hJ3.row; exact ht.lt
      have sj2 : wc.cell? ⟨sd jj, 2, none⟩ = some (mv (jj + 2)) := (hJ3.side jj hj).cell 2
      have sjl := (hJ3.side jj hj).lt
      rw [hq] at sj2
      have x5 : wc.cell? ⟨w.heap.size, 5, none⟩ = some (.int .i64 c) := hB2.cell 5
      have xl := hB2.lt
      have hil' : (i : Int) < (ml (jj + 2)).length := by omega
      have qf5 := qf (i * 6 + 5)
      have hec : (x.et : Int) + c = ((x.et + c.toNat : Nat) : Int) := by omega
      have hset := hJ3.setMs (q := jj + 2) (by omega) (j := 5) (m := { x with et := x.et + c.toNat }) (v := .int .i64 ((x.et + c.toNat : Nat) : Int)) hq hil (by omega) (fun z hz => by rw [hx] at hz; cases hz; exact ⟨rfl, rfl, rfl⟩)
      have hx300 : x.body.length ≤ 300 := hgb x (by rw [← hxi]; exact List.getElem_mem hil)
      have hle' : ((x.et + c.toNat : Nat) : Int) ≤ ((bs x.body).size : Int) := by rw [bs_size]; omega
      have hc1' : (1 : Int) ≤ c := hc1
      have hwg : w.heap.size ≠ gq := by
        have ho := hJ3.ms (jj + 2) (by omega)
        rw [hq] at ho
        exact fun e => own_ne ho hB2 (Nat.ne_of_beq_eq_false rfl) (by rw [e]; rfl)
      have hEb : ((x.et + c.toNat : Nat) : Int) ≤ 300 := by rw [bs_size] at hle'; omega
      have HFIN := hide (⟨hset, hJS, hx, hst, hc1⟩ : _ ∧ _ ∧ _ ∧ _ ∧ _)
      obtain ⟨ga, gcc, hgv⟩ := own_any (hJ3.hds (jj + 2) (by omega) x (by rw [← hxi]; exact List.getElem_mem hil))
      rw [hgv] at q0
      generalize hEE : x.et + c.toNat = EE at *
      have HEE := hide hEE
      generalize hEX : (x.et : Int) = EX at *
      have hb300 : EX ≤ 9223372036854775807 := by omega
      clear hBx hJd hftw h1 h2 h3 hB2 hJ3 hx hxi hst hc1 hle hJS hset hgv hq qf HP HX HC HIX o0 o1 o2 o3 o5 o6 p0 rk sk0 pl gl skl hEE hEX
      go_wp2_with (go_at_call 18; refine (num_any _ _).mono ?_; rintro e w4 ⟨rfl, rfl⟩)
      go_region
      go_wp2_with fail
      go_ret
      obtain ⟨hset, hJS, hx, hst, hc1⟩ := unhide HFIN
      exact ⟨rfl, _, _, hset.below (below_dn ((Below.refl _ _).alloc (Nat.le_refl _) _) 1), hJS, Or.inr ⟨rfl, i, x, hx, hst, hc1, by rw [unhide HEE]⟩⟩
    · have h0' : ((cd : Int) == 0) = false := by simp; omega
      rcases hcn with ⟨_, hJS⟩ | ⟨h, _⟩
      · have HFIN := hide (⟨hJ3, hJS⟩ : _ ∧ _)
        clear hBx hJd hftw h1 h2 h3 hB2 hJ3 hJS HP HX HC HIX o0 o1 o2 o3 o5 o6 p0 rk sk0
        go_wp2_with (go_at_call 18; refine (num_any _ _).mono ?_; rintro e w4 ⟨rfl, rfl⟩)
        go_ret
        exact ⟨rfl, _, _, (unhide HFIN).1, (unhide HFIN).2, Or.inl ⟨h0, rfl⟩⟩
      · exact absurd h h0

end Go.Proofs.YtbkpdapagfjmmaaGreatDoor

/-
  Walks: the steps of a pair: a stream is reset.
-/
set_option linter.unusedVariables false
namespace Go.Proofs.YtbkpdapagfjmmaaGreatDoor
open Go.RowKit

/-- The messages but for what is noted as gone. -/
def GoneR (ml ml' : Nat → List Ms) : Prop := ∀ q, q < 2 → hsL (ml' q) = hsL (ml q) ∧ bdF (ml' q) = bdF (ml q) ∧ ml' (q + 2) = ml (q + 2)
theorem GoneR.refl (ml : Nat → List Ms) : GoneR ml ml := fun _ _ => ⟨rfl, rfl, rfl⟩
theorem GoneR.set {ml : Nat → List Ms} {q x : Nat} (hq : q < 2) (hx : x < (ml q).length) : GoneR ml (upd ml q ((ml q).set x { (ml q)[x] with gn := true })) := by
  intro r hr
  have hxx : (ml q)[x]? = some (ml q)[x] := List.getElem?_eq_getElem hx
  rw [upd_other _ _ (show r + 2 ≠ q by omega)]
  by_cases hrq : r = q
  · subst hrq
    rw [upd_same, hsL_set (m := { (ml r)[x] with gn := true }) hxx rfl, bdF_set (m := { (ml r)[x] with gn := true }) hxx rfl]
    exact ⟨rfl, rfl, rfl⟩
  · rw [upd_other _ _ hrq]
    exact ⟨rfl, rfl, rfl⟩
theorem GoneR.js {e : Nat → Lk.En} {pipe : Nat → Lk.Bs} {ml ml' : Nat → List Ms} {n : Nat} (h : GoneR ml ml') (hS : JS e pipe ml n) : JS e pipe ml' n := hS.same (fun k hk => ⟨(h k hk).1, (h k hk).2.1, by rw [(h k hk).2.2], by rw [(h k hk).2.2]⟩)

set_option maxHeartbeats 4000000 in
set_option maxRecDepth 100000 in
theorem pair_reset (w0 : World) (P g cap : Nat) (sd eb : Nat → Nat) (e : Nat → Lk.En) (d : Nat → PD) (mv : Nat → Value) (ml : Nat → List Ms) (pipe : Nat → Lk.Bs) (n k : Nat) (a b c : Int) (st tt : ByteArray) (ha : Option Addr) (hl hc : Nat) (kd : Int) (j : Nat) (w : World) (hk : k < 2) (hj : j < 2) (hkj : k ≠ j) (ha1 : I64 a) (hJ : JP w0 P g cap sd eb e d mv ml pipe w) (hS : JS e pipe ml n) :
    Calls Tryz.prog 32 #[.pointer (some ⟨P, 0, none⟩), .agg #[.int .i64 kd, .int .i64 a, .int .i64 b, .string st, .string tt, .int .i64 c, .slice ha hl hc], .int .i64 (k : Int)] w fun r w' => r = .returned (.bool true) ∧ ∃ d' ml', JP w0 P g cap sd eb (upd e k ((e k).resetC a c).2) d' mv ml' pipe w' ∧ GoneR ml ml' := by
  have hk1 : (k : Int) < 2 := by omega
  have hBx := Is.new w 33 [.int .i64 kd, .int .i64 a, .int .i64 b, .string st, .string tt, .int .i64 c, .slice ha hl hc]
  have hbW := (Below.refl w.heap.size w).alloc (Nat.le_refl _) (.cells #[.int .i64 kd, .int .i64 a, .int .i64 b, .string st, .string tt, .int .i64 c, .slice ha hl hc] 33)
  have hJ0 := hJ.below hbW
  have hftw : ∀ i, foot (eb k) (d k) i → i < w.heap.size := (hJ.pe k hk).lt
  have hwW : w.heap.size < (w.alloc (.cells #[.int .i64 kd, .int .i64 a, .int .i64 b, .string st, .string tt, .int .i64 c, .slice ha hl hc] 33)).heap.size := by simp
  generalize hW : w.alloc (.cells #[.int .i64 kd, .int .i64 a, .int .i64 b, .string st, .string tt, .int .i64 c, .slice ha hl hc] 33) = W at *
  have o0 : W.cell? ⟨w.heap.size, 0, none⟩ = some (.int .i64 kd) := hBx.cell 0
  have o1 : W.cell? ⟨w.heap.size, 1, none⟩ = some (.int .i64 a) := hBx.cell 1
  have o2 : W.cell? ⟨w.heap.size, 2, none⟩ = some (.int .i64 b) := hBx.cell 2
  have o3 : W.cell? ⟨w.heap.size, 3, none⟩ = some (.string st) := hBx.cell 3
  have o4 : W.cell? ⟨w.heap.size, 4, none⟩ = some (.string tt) := hBx.cell 4
  have o5 : W.cell? ⟨w.heap.size, 5, none⟩ = some (.int .i64 c) := hBx.cell 5
  have o6 : W.cell? ⟨w.heap.size, 6, none⟩ = some (.slice ha hl hc) := hBx.cell 6
  have p0 : W.cell? ⟨P, 0, none⟩ = some (.slice (some ⟨g, 0, none⟩) 2 cap) := hJ0.pr.cell 0
  have pl := hJ0.pr.lt
  have rk : W.cell? ⟨g, k, none⟩ = some (.pointer (some ⟨sd k, 0, none⟩)) := pair_at hJ0.row hk
  have gl : g < W.heap.size := by obtain ⟨t, ht⟩ := hJ0.row; exact ht.lt
  have sk0 : W.cell? ⟨sd k, 0, none⟩ = some (.pointer (some ⟨eb k, 0, none⟩)) := (hJ0.side k hk).cell 0
  have skl := (hJ0.side k hk).lt
  have hcap := hJ0.cap2
  have hJd := hJ0.below (below_dn (Below.refl _ W) 1)
  have hjk : (1 : Int) - (k : Int) = (j : Int) := by omega
  have hj1 : (j : Int) < 2 := by omega
  have hrs := (hS.reset hk hj hkj a c).2
  have hmk := hS.len (q := k) (by omega)
  have hmj := hS.len (q := j) (by omega)
  have HC := hide (reset_p (eb k) (e k) (d k) a c (W.drewN 1) (hJd.pe k hk) ha1)
  generalize ((e k).resetC a c).1 = cd at *
  generalize ((e k).resetC a c).2 = e' at *
  have HX := hide (⟨hBx, hJd, hftw, hrs⟩ : _ ∧ _ ∧ _ ∧ _)
  clear hJ hJ0 hJd hBx hbW hftw hrs hS
  go_enter Tryz.func32, Tryz.ntmps32
  go_wp2_with fail
  go_cut [7] (fun s7 wc => s7 = .int .i64 (cd : Int) ∧ Hid (PPost (W.drewN 1) (eb k) (d k) e' wc))
  case first =>
    go_region_with (first | (go_at_call 69; refine (unhide HC).mono ?_; rintro r w2 ⟨rfl, hP⟩))
    all_goals
      go_wp2_with fail
      go_meet
      exact ⟨rfl, hP⟩
  case rest =>
    obtain ⟨rfl, HP⟩ := hcut
    obtain ⟨hBx, hJd, hftw, hrs⟩ := unhide HX
    obtain ⟨d', h1, h2, h3⟩ := unhide HP
    have hB2 := opx_keep hBx (drop1 h3) hftw
    have hJ3 := hJd.call hk h1 h2 h3
    by_cases h0 : cd = 0
    · subst h0
      have z0 : wc.cell? ⟨P, 0, none⟩ = some (.slice (some ⟨g, 0, none⟩) 2 cap) := hJ3.pr.cell 0
      have zl := hJ3.pr.lt
      have rk3 : wc.cell? ⟨g, k, none⟩ = some (.pointer (some ⟨sd k, 0, none⟩)) := pair_at hJ3.row hk
      have rj3 : wc.cell? ⟨g, j, none⟩ = some (.pointer (some ⟨sd j, 0, none⟩)) := pair_at hJ3.row hj
      have zg : g < wc.heap.size := by obtain ⟨t, ht⟩ := hJ3.row; exact ht.lt
      have x1 : wc.cell? ⟨w.heap.size, 1, none⟩ = some (.int .i64 a) := hB2.cell 1
      have xl := hB2.lt
      rcases hrs rfl with ⟨i, hi, hst⟩ | ⟨i, hi, hst⟩
      · obtain ⟨gq, cq, hq, _, hgq, hqc, q0, q1, q2, q3, q4, q5, qf⟩ := owned_mss (hJ3.ms k (by omega)) hi
        have s1 : wc.cell? ⟨sd k, 1, none⟩ = some (mv k) := (hJ3.side k hk).cell 1
        have sl := (hJ3.side k hk).lt
        rw [hq] at s1
        have qf4 := qf (i * 6 + 4)
        have hi' : (i : Int) < (ml k).length := by omega
        have hset := hJ3.setMs (q := k) (by omega) (j := 4) (m := { (ml k)[i] with gn := true }) (v := .bool true) hq hi (by omega) (fun z hz => by rw [List.getElem?_eq_getElem hi] at hz; cases hz; exact ⟨rfl, rfl, rfl⟩)
        have HK := hide (fun W' => index_any a k hk W' (by omega) (by omega))
        have HJ := hide (fun W' => index_any a j hj W' (by omega) (by omega))
        rw [ixN_of hst] at HK
        generalize ixN a j = jx at *
        have HFIN := hide (⟨hset, GoneR.set (ml := ml) hk hi⟩ : _ ∧ _)
        clear hBx hJd hftw hrs h1 h2 h3 hB2 hJ3 hq q0 q1 q2 q3 q5 qf hset hst HP HX HC o0 o1 o2 o3 o4 o5 o6 p0 rk sk0 pl gl skl
        go_wp2_with fail
        refine (num_any _ _).mono ?_
        rintro r w4 ⟨rfl, rfl⟩
        go_wp2_with fail
        refine (unhide HK _).mono ?_
        rintro r w5 ⟨rfl, rfl⟩
        go_wp2_with fail
        refine (unhide HJ _).mono ?_
        rintro r w6 ⟨rfl, rfl⟩
        go_wp2_with fail
        go_ret
        exact ⟨rfl, _, _, (unhide HFIN).1, (unhide HFIN).2⟩
      · obtain ⟨gq, cq, hq, _, hgq, hqc, q0, q1, q2, q3, q4, q5, qf⟩ := owned_mss (hJ3.ms j (by omega)) hi
        have s1 : wc.cell? ⟨sd j, 1, none⟩ = some (mv j) := (hJ3.side j hj).cell 1
        have sl := (hJ3.side j hj).lt
        rw [hq] at s1
        have qf4 := qf (i * 6 + 4)
        have hi' : (i : Int) < (ml j).length := by omega
        have hset := hJ3.setMs (q := j) (by omega) (j := 4) (m := { (ml j)[i] with gn := true }) (v := .bool true) hq hi (by omega) (fun z hz => by rw [List.getElem?_eq_getElem hi] at hz; cases hz; exact ⟨rfl, rfl, rfl⟩)
        have HK := hide (fun W' => index_any a k hk W' (by omega) (by omega))
        have HJ := hide (fun W' => index_any a j hj W' (by omega) (by omega))
        have hkm : ixN a k = -1 := by
          obtain ⟨A, rfl⟩ : ∃ A : Nat, a = A := ⟨a.toNat, by omega⟩
          rcases ixN_nat (st := A) (k := k) with ⟨y, hy, _⟩ | ⟨_, h⟩
          · omega
          · exact h
        rw [ixN_of hst] at HJ
        rw [hkm] at HK
        have HFIN := hide (⟨hset, GoneR.set (ml := ml) hj hi⟩ : _ ∧ _)
        clear hBx hJd hftw hrs h1 h2 h3 hB2 hJ3 hq q0 q1 q2 q3 q5 qf hset hst hkm HP HX HC o0 o1 o2 o3 o4 o5 o6 p0 rk sk0 pl gl skl
        go_wp2_with fail
        refine (num_any _ _).mono ?_
        rintro r w4 ⟨rfl, rfl⟩
        go_wp2_with fail
        refine (unhide HK _).mono ?_
        rintro r w5 ⟨rfl, rfl⟩
        go_wp2_with fail
        refine (unhide HJ _).mono ?_
        rintro r w6 ⟨rfl, rfl⟩
        go_wp2_with fail
        go_ret
        exact ⟨rfl, _, _, (unhide HFIN).1, (unhide HFIN).2⟩
    · have h0' : ((cd : Int) != 0) = true := by simp; omega
      have HFIN := hide hJ3
      clear hBx hJd hftw hrs h1 h2 h3 hB2 hJ3 HP HX HC o0 o1 o2 o3 o4 o5 o6 p0 rk sk0
      go_wp2_with (go_at_call 18; refine (num_any _ _).mono ?_; rintro e w4 ⟨rfl, rfl⟩)
      go_ret
      exact ⟨rfl, _, _, unhide HFIN, GoneR.refl _⟩

set_option maxHeartbeats 4000000 in
set_option maxRecDepth 100000 in
theorem step_reset (w0 : World) (P g cap : Nat) (sd eb : Nat → Nat) (e : Nat → Lk.En) (d : Nat → PD) (mv : Nat → Value) (ml : Nat → List Ms) (pipe : Nat → Lk.Bs) (n k : Nat) (a b c : Int) (st tt : ByteArray) (ha : Option Addr) (hl hc : Nat) (w : World) (hk : k < 2) (hb : bits .and .i64 b 1 = (k : Int)) (hJ : JP w0 P g cap sd eb e d mv ml pipe w) (j : Nat) (hj : j < 2) (hkj : k ≠ j) (ha1 : I64 a) (hS : JS e pipe ml n) :
    Calls Tryz.prog 13 #[.pointer (some ⟨P, 0, none⟩), .agg #[.int .i64 11, .int .i64 a, .int .i64 b, .string st, .string tt, .int .i64 c, .slice ha hl hc], .bool true] w fun r w' => r = .returned (.bool true) ∧ ∃ d' ml', JP w0 P g cap sd eb (upd e k ((e k).resetC a c).2) d' mv ml' pipe w' ∧ GoneR ml ml' := by
  have hk1 : (k : Int) < 2 := by omega
  have hBx := Is.new w 33 [.int .i64 11, .int .i64 a, .int .i64 b, .string st, .string tt, .int .i64 c, .slice ha hl hc]
  have hbW := (Below.refl w.heap.size w).alloc (Nat.le_refl _) (.cells #[.int .i64 11, .int .i64 a, .int .i64 b, .string st, .string tt, .int .i64 c, .slice ha hl hc] 33)
  have hJ0 := hJ.below hbW
  have hftw : ∀ i, foot (eb k) (d k) i → i < w.heap.size := (hJ.pe k hk).lt
  have hwW : w.heap.size < (w.alloc (.cells #[.int .i64 11, .int .i64 a, .int .i64 b, .string st, .string tt, .int .i64 c, .slice ha hl hc] 33)).heap.size := by simp
  generalize hW : w.alloc (.cells #[.int .i64 11, .int .i64 a, .int .i64 b, .string st, .string tt, .int .i64 c, .slice ha hl hc] 33) = W at *
  have o0 : W.cell? ⟨w.heap.size, 0, none⟩ = some (.int .i64 11) := hBx.cell 0
  have o1 : W.cell? ⟨w.heap.size, 1, none⟩ = some (.int .i64 a) := hBx.cell 1
  have o2 : W.cell? ⟨w.heap.size, 2, none⟩ = some (.int .i64 b) := hBx.cell 2
  have o3 : W.cell? ⟨w.heap.size, 3, none⟩ = some (.string st) := hBx.cell 3
  have o4 : W.cell? ⟨w.heap.size, 4, none⟩ = some (.string tt) := hBx.cell 4
  have o5 : W.cell? ⟨w.heap.size, 5, none⟩ = some (.int .i64 c) := hBx.cell 5
  have o6 : W.cell? ⟨w.heap.size, 6, none⟩ = some (.slice ha hl hc) := hBx.cell 6
  have p0 : W.cell? ⟨P, 0, none⟩ = some (.slice (some ⟨g, 0, none⟩) 2 cap) := hJ0.pr.cell 0
  have pl := hJ0.pr.lt
  have rk : W.cell? ⟨g, k, none⟩ = some (.pointer (some ⟨sd k, 0, none⟩)) := pair_at hJ0.row hk
  have gl : g < W.heap.size := by obtain ⟨t, ht⟩ := hJ0.row; exact ht.lt
  have sk0 : W.cell? ⟨sd k, 0, none⟩ = some (.pointer (some ⟨eb k, 0, none⟩)) := (hJ0.side k hk).cell 0
  have skl := (hJ0.side k hk).lt
  have hcap := hJ0.cap2
  have hJd := hJ0.below (below_dn (Below.refl _ W) 1)
  have HC := hide (pair_reset w0 P g cap sd eb e d mv ml pipe n k a b c st tt ha hl hc 11 j W hk hj hkj ha1 hJ0 hS)
  clear hJ hJ0 hJd hBx hbW hftw hS
  go_enter Tryz.func13, Tryz.ntmps13
  go_wp2_with fail
  refine (unhide HC).mono ?_
  rintro r w1 ⟨rfl, d', ml', h1, h2⟩
  have HFIN := hide (⟨h1, h2⟩ : _ ∧ _)
  clear h1 h2 HC
  go_wp2_with fail
  go_ret
  exact ⟨rfl, _, _, (unhide HFIN).1, (unhide HFIN).2⟩

end Go.Proofs.YtbkpdapagfjmmaaGreatDoor

/-
  Walks: what is heard of an end that is fed piece by piece.
-/
namespace Go.Proofs.YtbkpdapagfjmmaaGreatDoor
open Go.RowKit

theorem side_one (b : Int) : ∃ k : Nat, k ≤ 1 ∧ bits .and .i64 b 1 = (k : Int) := by
  have h : ∀ x : BitVec 64, (x &&& 1#64).toNat = 0 ∨ (x &&& 1#64).toNat = 1 := by
    intro x
    rw [BitVec.toNat_and]
    have : (1#64).toNat = 2 ^ 1 - 1 := rfl
    rw [this, Nat.and_two_pow_sub_one_eq_mod]
    omega
  have e : bits .and .i64 b 1 = IntKind.i64.wrap (((BitVec.ofInt 64 b) &&& 1#64).toNat : Int) := rfl
  rw [e]
  rcases h (BitVec.ofInt 64 b) with h | h <;> rw [h]
  · exact ⟨0, by omega, rfl⟩
  · exact ⟨1, by omega, rfl⟩
/-- A number from 0 to 199, made of any. -/
def bndN (c : Int) : Nat := (if c.tmod 200 < 0 then c.tmod 200 + 199 + 1 else c.tmod 200).toNat
theorem bndN_le (c : Int) : bndN c ≤ 199 := by
  have b1 : c.tmod 200 < 200 := Int.tmod_lt_of_pos _ (by omega)
  unfold bndN
  split <;> omega
theorem bounded199 (c : Int) (w : World) (_h1 : -9223372036854775808 ≤ c) (_h2 : c ≤ 9223372036854775807) :
    Calls Tryz.prog 11 #[.int .i64 c, .int .i64 199] w fun r w' => r = .returned (.int .i64 (bndN c : Int)) ∧ w' = w := by
  have b1 : c.tmod 200 < 200 := Int.tmod_lt_of_pos _ (by omega)
  have b2 : -(200 : Int) < c.tmod 200 := by
    have e1 := Int.neg_tmod c 200
    have e2 := Int.tmod_lt_of_pos (-c) (show (0 : Int) < 200 by omega)
    omega
  unfold bndN
  by_cases h0 : c.tmod 200 < 0
  · rw [if_pos h0]
    go_enter Tryz.func11, Tryz.ntmps11
    go_wp2
    go_ret
    exact ⟨ret_int (by omega), rfl⟩
  · rw [if_neg h0]
    go_enter Tryz.func11, Tryz.ntmps11
    go_wp2
    go_ret
    exact ⟨ret_int (by omega), rfl⟩

/-- What heard answers. -/
def HrPost (w : World) (E0 : Lk.En) (L : Lk.Bs) (r : Ending) (w' : World) : Prop :=
  ∃ v evs, r = .returned (.tuple #[.agg #[v, .int .i64 ((E0.feed L).2.down : Int)], .string (bs (Lk.En.drain 100000 (E0.feed L).2).1)]) ∧ evs.map Prod.fst = (E0.feed L).1
    ∧ w'.ownsRow w.heap.size 116 5 v evs.length (evsV evs) ∧ (∀ p ∈ evs, w'.ownsRow w.heap.size 112 2 p.2 p.1.hs.length (hdsV p.1.hs)) ∧ Below w.heap.size w w'

end Go.Proofs.YtbkpdapagfjmmaaGreatDoor
