import Derived.Test.YtbkpdapagfjmmaaGreatDoorMJEJG
/-
  Walks: the steps of a pair, where nothing is reset and no end says bye.
-/
set_option linter.unusedVariables false
namespace Go.Proofs.YtbkpdapagfjmmaaGreatDoor
open Go.RowKit

def JStX (w0 : World) (P g cap : Nat) (sd eb : Nat → Nat) (n : Nat) (w : World) : Prop := ∃ e d mv ml pipe F, JP w0 P g cap sd eb e d mv ml pipe w ∧ JS e pipe ml n ∧ Bd ml ∧ JXS e pipe ml F ∧ cnt e F ≤ 2 * n ∧ (ml 0).length + (ml 1).length ≤ n
theorem len_upd {ml : Nat → List Ms} {k n : Nat} (hk : k < 2) (m : Ms) (h : (ml 0).length + (ml 1).length ≤ n) : (upd ml k (ml k ++ [m]) 0).length + (upd ml k (ml k ++ [m]) 1).length ≤ n + 1 := by
  have : k = 0 ∨ k = 1 := by omega
  rcases this with rfl | rfl
  · rw [upd_same, upd_other _ _ (by omega), List.length_append]
    simp only [List.length_cons, List.length_nil]
    omega
  · rw [upd_same, upd_other _ _ (by omega), List.length_append]
    simp only [List.length_cons, List.length_nil]
    omega
theorem hs_len {a b : List Ms} (h : hsL a = hsL b) : a.length = b.length := by
  have := congrArg List.length h
  rwa [hsL_len, hsL_len] at this
theorem stepX_any (w0 : World) (P g cap : Nat) (sd eb : Nat → Nat) (n : Nat) (o : Sc.OpJ) (w : World) (hn : n ≤ 2 ^ 21) (ho : o.Ok w) (h : JStX w0 P g cap sd eb n w) :
    Calls Tryz.prog 13 #[.pointer (some ⟨P, 0, none⟩), .agg #[.int .i64 o.kd, .int .i64 o.a, .int .i64 o.b, .string o.s, .string o.t, .int .i64 o.n, .slice o.ha o.hl o.hc], .bool false] w fun r w' => r = .returned (.bool true) ∧ JStX w0 P g cap sd eb (n + 1) w' := by
  obtain ⟨e, d, mv, ml, pipe, F, hJ, hS, hB, hX, hc, hL⟩ := h
  obtain ⟨k, hk1, hb⟩ := side_one o.b
  have hk : k < 2 := by omega
  obtain ⟨j, hj, hkj⟩ : ∃ j, j < 2 ∧ k ≠ j := ⟨1 - k, by omega, by omega⟩
  have hB2 : ∀ q, q < 2 → ∀ m ∈ ml q, m.body.length ≤ 300 := fun q hq => hB q (by omega)
  obtain ⟨kd, a, b, st, tt, c, ha, hl, hcc, l⟩ := o
  obtain ⟨o1, o2, o3, o4, o5, o6⟩ := ho
  simp only at *
  by_cases h9 : kd = 9
  · subst h9
    refine (step_submit w0 P g cap sd eb e d mv ml pipe n k a b c st tt ha hl hcc false w hk hb hJ l (by omega) o3 hS).mono ?_
    rintro r w' ⟨rfl, d', mv', ml', h1, h2, h3⟩
    rcases h3 with ⟨h0, rfl⟩ | ⟨h0, hv, rfl⟩
    · rcases hX.submit hk (pairs l) st.data.toList with ⟨_, F', x1, x2⟩ | ⟨z, _⟩
      · exact ⟨rfl, _, d', mv', _, pipe, F', h1, h2, hB, x1, by omega, by omega⟩
      · exact absurd z h0
    · rcases hX.submit hk (pairs l) st.data.toList with ⟨z, _⟩ | ⟨_, x1⟩
      · exact absurd h0 z
      · obtain ⟨F', x1, x2⟩ := x1 hv
        exact ⟨rfl, _, d', mv', _, pipe, F', h1, h2, hB.push (submitC_le h0), x1, by omega, len_upd hk _ hL⟩
  by_cases h10 : kd = 10
  · subst h10
    refine (step_consume w0 P g cap sd eb e d mv ml pipe n k a b c st tt ha hl hcc false w hk hb hJ j hj hkj o5 (hB (j + 2) (by omega)) hS).mono ?_
    rintro r w' ⟨rfl, d', ml', h1, h2, h3⟩
    rcases h3 with ⟨h0, rfl⟩ | ⟨h0, i, x, hx, hst, _, rfl⟩
    · rcases hX.consume hS.sd hk hj hkj a c with ⟨_, x1, x2⟩ | ⟨z, _⟩
      · exact ⟨rfl, _, d', mv, _, pipe, F, h1, h2, hB, x1, by omega, by omega⟩
      · exact absurd z h0
    · rcases hX.consume hS.sd hk hj hkj a c with ⟨z, _⟩ | ⟨_, x1⟩
      · exact absurd h0 z
      · obtain ⟨F', x1, x2⟩ := x1 i x hx hst
        refine ⟨rfl, _, d', mv, _, pipe, F', h1, h2, hB.set (by omega) hx rfl, x1, by omega, ?_⟩
        rw [upd_other _ _ (show 0 ≠ j + 2 by omega), upd_other _ _ (show 1 ≠ j + 2 by omega)]
        omega
  by_cases h11 : kd = 11
  · subst h11
    refine (step_noReset w0 P g cap sd eb e d mv ml pipe n k a b c st tt ha hl hcc w hk hb hJ).mono ?_
    rintro r w' ⟨rfl, h1⟩
    exact ⟨rfl, e, d, mv, ml, pipe, F, h1, hS.later (by omega), hB, hX, by omega, by omega⟩
  by_cases h12 : kd = 12
  · subst h12
    refine (step_ping w0 P g cap sd eb e d mv ml pipe n k a b c st tt ha hl hcc false w hk hb hJ hS).mono ?_
    rintro r w' ⟨rfl, d', h1⟩
    obtain ⟨F', x1, x2⟩ := hX.ping hk st.data.toList
    exact ⟨rfl, _, d', mv, ml, pipe, F', h1, (hS.ping hk _).1, hB, x1, by omega, by omega⟩
  by_cases h13 : kd = 13
  · subst h13
    refine (step_noBye w0 P g cap sd eb e d mv ml pipe n k a b c st tt ha hl hcc w hk hb hJ).mono ?_
    rintro r w' ⟨rfl, h1⟩
    exact ⟨rfl, e, d, mv, ml, pipe, F, h1, hS.later (by omega), hB, hX, by omega, by omega⟩
  by_cases h14 : kd = 14
  · subst h14
    refine (step_drain w0 P g cap sd eb e d mv ml pipe n k a b c st tt ha hl hcc false w hk hb hJ o5.2 hS hn).mono ?_
    rintro r w' ⟨rfl, d', h1⟩
    obtain ⟨F', x1, x2⟩ := hX.drainC hk a.toNat
    exact ⟨rfl, _, d', mv, ml, _, F', h1, (hS.drain hk a.toNat).later (by omega), hB, x1, by omega, by omega⟩
  by_cases h16 : kd = 16
  · subst h16
    refine (step_move w0 P g cap sd eb e d mv ml pipe n k a b c st tt ha hl hcc false w hk hb hJ j hj hkj hn hB2 hS).mono ?_
    rintro r w' ⟨rfl, d', mv', ml', h1, h2, h3, h4, h5⟩
    obtain ⟨F', x1, x2⟩ := hX.moveC hS.sd hk hj hkj (List.take_append_drop (mvN a (pipe k)) (pipe k)).symm h3 h4 h5
    refine ⟨rfl, _, d', mv', ml', _, F', h1, h2, hB.moved hk hj hkj h3 h4 h5, x1, by omega, ?_⟩
    have q0 := hs_len (h3 0 (by omega)).1
    have q1 := hs_len (h3 1 (by omega)).1
    omega
  · refine (step_other w0 P g cap sd eb e d mv ml pipe n k a b c st tt ha hl hcc false kd w hk hb hJ ⟨h9, h10, h11, h12, h13, h14, h16⟩).mono ?_
    rintro r w' ⟨rfl, h1⟩
    exact ⟨rfl, e, d, mv, ml, pipe, F, h1, hS.later (by omega), hB, hX, by omega, by omega⟩
end Go.Proofs.YtbkpdapagfjmmaaGreatDoor

/-
  Walks: all that was submitted arrives.
-/
set_option linter.unusedVariables false
namespace Go.Proofs.YtbkpdapagfjmmaaGreatDoor
open Go.RowKit

/-- The rounds of the first k sides' messages. -/
def rs2 (ml : Nat → List Ms) : Nat → Nat
  | 0 => 0
  | k + 1 => rs2 ml k + rsum (ml k)
/-- Side k is next, of the round that v more follow. -/
structure RSt (w0 : World) (P g cap : Nat) (sd eb : Nat → Nat) (k s v : Nat) (e : Nat → Lk.En) (d : Nat → PD) (mv : Nat → Value) (ml : Nat → List Ms) (pipe : Nat → Lk.Bs) (F : Nat → List Lk.Fr) (w : World) : Prop where
  jp : JP w0 P g cap sd eb e d mv ml pipe w
  js : JS e pipe ml (524288 + 801 * k)
  bd : Bd ml
  hb : HB (k % 2) ((k + 1) % 2) e pipe ml F 262144
  st : Stage (k % 2) ((k + 1) % 2) e pipe F (s + k)
  s2 : s = 0 ∨ 2 ≤ s
  p0 : s = 0 → ∀ q, q < 2 → Lk.pend (e q) + 10 ≤ v
  p1 : ∀ q, q < 2 → Lk.pend (e q) ≤ v
  p2 : ∀ q, q < 2 → q < k → Lk.pend (e q) + 1 ≤ v
  v5 : v ≤ 50000000
  v0 : 0 < v

theorem RSt.ate {w0 : World} {P g cap : Nat} {sd eb : Nat → Nat} {k s v j : Nat} {e e2 e3 : Nat → Lk.En} {d d3 : Nat → PD} {mv mv3 : Nat → Value} {ml ml2 ml3 : Nat → List Ms} {pipe pipe2 : Nat → Lk.Bs} {F F2 F3 : Nat → List Lk.Fr} {w w3 : World}
    (h : RSt w0 P g cap sd eb k s v e d mv ml pipe F w) (hk : k < 2) (hj : j < 2) (hkj : k ≠ j) (hM : Mid k j e e2 pipe pipe2 F F2 262144 (s + k)) (hE : EatSt w0 P g cap sd eb mv3 pipe2 j k (524288 + 801 * k + 1) e2 F2 ml2 (ml3 (k + 2)).length e3 d3 ml3 F3 w3) : RSt w0 P g cap sd eb (k + 1) s v e3 d3 mv3 ml3 pipe2 F3 w3 := by
  obtain ⟨hJ, hX, hsd, hB, hEa, hS⟩ := hE
  have ek : k % 2 = k := by omega
  have ej : (k + 1) % 2 = j := by omega
  have ek2 : (k + 1 + 1) % 2 = k := by omega
  have hb := h.hb
  have hst := h.st
  rw [ek, ej] at hb hst
  obtain ⟨a1, a2, a3, a4, a5⟩ := hM.ate hb hk hj hkj hst hX hsd hEa
  obtain ⟨ta, tb, hJX⟩ := hX.at hj hk (Ne.symm hkj)
  have hroom : (e3 j).room ≤ 400 := by
    have := hJX.both.wa.room
    have := hJX.both.wa.win2
    omega
  have hq : ∀ q, q < 2 → q = k ∨ q = j := fun q hq => by omega
  refine ⟨hJ, hS.later (by omega), hB, by rw [ej, ek2]; exact a1, by rw [ej, ek2]; exact a2, h.s2, fun h0 q hq2 => ?_, fun q hq2 => ?_, fun q hq2 hqk => ?_, h.v5, h.v0⟩
  · have := h.p0 h0 q hq2
    rcases hq q hq2 with rfl | rfl <;> omega
  · have := h.p1 q hq2
    rcases hq q hq2 with rfl | rfl <;> omega
  · rcases hq q hq2 with rfl | rfl
    · rcases h.s2 with h0 | h2
      · have := h.p0 h0 q hq2
        omega
      · have h1 := h.p1 q hq2
        have h3 := h.v0
        by_cases hz : Lk.pend (e q) = 0
        · omega
        · have := a4 (by omega) (by omega)
          omega
    · have := h.p2 q hq2 (by omega)
      omega
theorem RSt.next {w0 : World} {P g cap : Nat} {sd eb : Nat → Nat} {s v : Nat} {e : Nat → Lk.En} {d : Nat → PD} {mv : Nat → Value} {ml : Nat → List Ms} {pipe : Nat → Lk.Bs} {F : Nat → List Lk.Fr} {w : World} (h : RSt w0 P g cap sd eb 2 s v e d mv ml pipe F w) (hv : 1 < v) : RSt w0 P g cap sd eb 0 (s + 2) (v - 1) e d mv ml pipe F w := by
  have hp : ∀ q, q < 2 → Lk.pend (e q) ≤ v - 1 := fun q hq => by have := h.p2 q hq hq; omega
  have h5 := h.v5
  refine ⟨h.jp, h.hb.js h.st (by omega) (by omega) (fun q hq => by have := hp q hq; omega), h.bd, h.hb, h.st, .inr (by omega), fun h0 => by omega, hp, fun q _ hq => by omega, by omega, by omega⟩
/-- All has arrived. -/
theorem RSt.final {w0 : World} {P g cap : Nat} {sd eb : Nat → Nat} {s : Nat} {e : Nat → Lk.En} {d : Nat → PD} {mv : Nat → Value} {ml : Nat → List Ms} {pipe : Nat → Lk.Bs} {F : Nat → List Lk.Fr} {w : World} (h : RSt w0 P g cap sd eb 2 s 1 e d mv ml pipe F w) {k : Nat} (hk : k < 2) :
    (ml (k + 2)).length = (ml k).length ∧ ∀ (i : Nat) (m : Ms), (ml (k + 2))[i]? = some m → m.en = true ∧ ∃ m', (ml k)[i]? = some m' ∧ m.body = m'.body :=
  HB.final h.hb h.st (by omega) (fun q hq => by have := h.p2 q hq hq; omega) hk
/-- Before the rounds. -/
theorem RSt.start {w0 : World} {P g cap : Nat} {sd eb : Nat → Nat} {n : Nat} {e : Nat → Lk.En} {d : Nat → PD} {mv : Nat → Value} {ml : Nat → List Ms} {pipe : Nat → Lk.Bs} {F : Nat → List Lk.Fr} {w : World} (hn : n ≤ 131072) (hJ : JP w0 P g cap sd eb e d mv ml pipe w) (hS : JS e pipe ml n) (hB : Bd ml) (hX : JXS e pipe ml F) (hc : cnt e F ≤ 2 * n) (hL : (ml 0).length + (ml 1).length ≤ n) : RSt w0 P g cap sd eb 0 0 (10 + rs2 ml 2) e d mv ml pipe F w := by
  have hr : ∀ q, q < 2 → rsum (ml q) ≤ rs2 ml 2 := fun q hq => by
    have : q = 0 ∨ q = 1 := by omega
    simp only [rs2]
    rcases this with rfl | rfl <;> omega
  have hu : rs2 ml 2 ≤ 302 * n := by
    have h0 := rsum_le (ml 0) (hB 0 (by omega))
    have h1 := rsum_le (ml 1) (hB 1 (by omega))
    simp only [rs2]
    omega
  have hp : ∀ q, q < 2 → Lk.pend (e q) ≤ rs2 ml 2 := fun q hq => Nat.le_trans (hX.pend_le hq) (hr q hq)
  unfold cnt at hc
  refine ⟨hJ, hS.later (by omega), hB, ⟨hX, hS.sd, ?_, ?_⟩, ⟨fun h => by omega, fun h => by omega⟩, .inl rfl, fun _ q hq => by have := hp q hq; omega, fun q hq => by have := hp q hq; omega, fun q _ hq => by omega, by omega, by omega⟩
  · show (e 0).row.length + Lk.pings (F 0) + Lk.pings (F 1) ≤ _
    omega
  · show (e 1).row.length + Lk.pings (F 0) + Lk.pings (F 1) ≤ _
    omega
/-- Side k has drained, its bytes come to side j. -/
theorem RSt.moved {w0 : World} {P g cap : Nat} {sd eb : Nat → Nat} {k s v j : Nat} {e : Nat → Lk.En} {d : Nat → PD} {mv : Nat → Value} {ml : Nat → List Ms} {pipe : Nat → Lk.Bs} {F : Nat → List Lk.Fr} {w w2 : World} (h : RSt w0 P g cap sd eb k s v e d mv ml pipe F w) (hk : k < 2) (hj : j < 2) (hkj : k ≠ j)
    (hM : MvPost w0 P g cap sd eb (upd e k (Lk.En.drain 1000000 (e k)).2) ml (upd pipe k (pipe k ++ (Lk.En.drain 1000000 (e k)).1)) (524288 + 801 * k) k j (mvN (-1) (upd pipe k (pipe k ++ (Lk.En.drain 1000000 (e k)).1) k)) w2) :
    ∃ e2 d' mv' ml' pipe2 F2, JP w0 P g cap sd eb e2 d' mv' ml' pipe2 w2 ∧ JXS e2 pipe2 ml' F2 ∧ (∀ q, q < 2 → (e2 q).side = q) ∧ Bd ml' ∧ JS e2 pipe2 ml' (524288 + 801 * k + 1) ∧ Mid k j e e2 pipe pipe2 F F2 262144 (s + k) := by
  have ek : k % 2 = k := by omega
  have ej : (k + 1) % 2 = j := by omega
  have hb := h.hb
  have hst := h.st
  rw [ek, ej] at hb hst
  obtain ⟨d', mv', ml', h1, h2, h3, h4, h5⟩ := hM
  have hN : mvN (-1) (upd pipe k (pipe k ++ (Lk.En.drain 1000000 (e k)).1) k) = (upd pipe k (pipe k ++ (Lk.En.drain 1000000 (e k)).1) k).length := by unfold mvN; rw [if_pos (.inl (by omega))]
  rw [hN, List.take_length] at h1 h2 h5
  rw [List.drop_length] at h1 h2
  have hpk : upd pipe k (pipe k ++ (Lk.En.drain 1000000 (e k)).1) k = pipe k ++ (Lk.En.drain 1000000 (e k)).1 := upd_same _ _ _
  rw [hpk] at h1 h2 h5
  obtain ⟨F2, x1, x2, x3⟩ := hb.drained hk hj hkj (by omega) hst _ rfl _ rfl _ rfl h3 h4 h5
  exact ⟨_, d', mv', ml', _, F2, h1, x1, x2, h.bd.moved hk hj hkj h3 h4 h5, h2, x3⟩
/-- What an end drains in a round is not much. -/
theorem RSt.small {w0 : World} {P g cap : Nat} {sd eb : Nat → Nat} {k s v : Nat} {e : Nat → Lk.En} {d : Nat → PD} {mv : Nat → Value} {ml : Nat → List Ms} {pipe : Nat → Lk.Bs} {F : Nat → List Lk.Fr} {w : World} (h : RSt w0 P g cap sd eb k s v e d mv ml pipe F w) (hk : k < 2) : (Lk.En.drain 1000000 (e k)).1.length ≤ 2 ^ 38 ∧ (pipe k).length ≤ 2 ^ 38 := by
  have h1 := h.js.small (by omega) hk
  have h2 := Lk.drain_mass 1000000 (h.js.wf hk).1
  exact ⟨by omega, h1.2⟩
/-- At the end. -/
structure FSt (w0 : World) (P g cap : Nat) (sd eb : Nat → Nat) (e : Nat → Lk.En) (d : Nat → PD) (mv : Nat → Value) (ml : Nat → List Ms) (pipe : Nat → Lk.Bs) (w : World) : Prop where
  jp : JP w0 P g cap sd eb e d mv ml pipe w
  len : ∀ k, k < 2 → (ml (k + 2)).length = (ml k).length
  told : ∀ k, k < 2 → ∀ (i : Nat) (m : Ms), (ml (k + 2))[i]? = some m → m.en = true ∧ ∃ m', (ml k)[i]? = some m' ∧ m.body = m'.body
  small : ∀ k, k < 2 → (ml k).length ≤ 134217729
theorem RSt.fin {w0 : World} {P g cap : Nat} {sd eb : Nat → Nat} {s : Nat} {e : Nat → Lk.En} {d : Nat → PD} {mv : Nat → Value} {ml : Nat → List Ms} {pipe : Nat → Lk.Bs} {F : Nat → List Lk.Fr} {w : World} (h : RSt w0 P g cap sd eb 2 s 1 e d mv ml pipe F w) : FSt w0 P g cap sd eb e d mv ml pipe w :=
  ⟨h.jp, fun k hk => (h.final hk).1, fun k hk => (h.final hk).2, fun k hk => h.js.len (by omega)⟩
end Go.Proofs.YtbkpdapagfjmmaaGreatDoor
