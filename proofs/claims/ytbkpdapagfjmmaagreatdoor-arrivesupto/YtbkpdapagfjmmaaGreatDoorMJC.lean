import Derived.Test.YtbkpdapagfjmmaaGreatDoorMJ6S3
import Derived.Test.YtbkpdapagfjmmaaGreatDoorMJ7J8
import Derived.Test.YtbkpdapagfjmmaaGreatDoorMJ9FR
import Derived.Test.YtbkpdapagfjmmaaGreatDoorMJBOJ
/-
  Walks: all steps of a pair.
-/
set_option linter.unusedVariables false
namespace Go.Proofs.YtbkpdapagfjmmaaGreatDoor
open Go.RowKit

set_option maxHeartbeats 4000000 in
set_option maxRecDepth 100000 in
theorem step_move (w0 : World) (P g cap : Nat) (sd eb : Nat → Nat) (e : Nat → Lk.En) (d : Nat → PD) (mv : Nat → Value) (ml : Nat → List Ms) (pipe : Nat → Lk.Bs) (n k : Nat) (a b c : Int) (st tt : ByteArray) (ha : Option Addr) (hl hc : Nat) (rs : Bool) (w : World) (hk : k < 2) (hb : bits .and .i64 b 1 = (k : Int)) (hJ : JP w0 P g cap sd eb e d mv ml pipe w) (j : Nat) (hj : j < 2) (hkj : k ≠ j) (hn : n ≤ 2 ^ 21) (hbd : ∀ q, q < 2 → ∀ m ∈ ml q, m.body.length ≤ 300) (hS : JS e pipe ml n) :
    Calls Tryz.prog 13 #[.pointer (some ⟨P, 0, none⟩), .agg #[.int .i64 16, .int .i64 a, .int .i64 b, .string st, .string tt, .int .i64 c, .slice ha hl hc], .bool rs] w fun r w' => r = .returned (.bool true) ∧ MvPost w0 P g cap sd eb e ml pipe n k j (mvN a (pipe k)) w' := by
  have hk1 : (k : Int) < 2 := by omega
  have hBx := Is.new w 33 [.int .i64 16, .int .i64 a, .int .i64 b, .string st, .string tt, .int .i64 c, .slice ha hl hc]
  have hbW := (Below.refl w.heap.size w).alloc (Nat.le_refl _) (.cells #[.int .i64 16, .int .i64 a, .int .i64 b, .string st, .string tt, .int .i64 c, .slice ha hl hc] 33)
  have hJ0 := hJ.below hbW
  have hftw : ∀ i, foot (eb k) (d k) i → i < w.heap.size := (hJ.pe k hk).lt
  have hwW : w.heap.size < (w.alloc (.cells #[.int .i64 16, .int .i64 a, .int .i64 b, .string st, .string tt, .int .i64 c, .slice ha hl hc] 33)).heap.size := by simp
  generalize hW : w.alloc (.cells #[.int .i64 16, .int .i64 a, .int .i64 b, .string st, .string tt, .int .i64 c, .slice ha hl hc] 33) = W at *
  have o0 : W.cell? ⟨w.heap.size, 0, none⟩ = some (.int .i64 16) := hBx.cell 0
  have o1 : W.cell? ⟨w.heap.size, 1, none⟩ = some (.int .i64 a) := hBx.cell 1
  have o2 : W.cell? ⟨w.heap.size, 2, none⟩ = some (.int .i64 b) := hBx.cell 2
  have o3 : W.cell? ⟨w.heap.size, 3, none⟩ = some (.string st) := hBx.cell 3
  have o4 : W.cell? ⟨w.heap.size, 4, none⟩ = some (.string tt) := hBx.cell 4
  have o5 : W.cell? ⟨w.heap.size, 5, none⟩ = some (.int .i64 c) := hBx.cell 5
  have o6 : W.cell? ⟨w.heap.size, 6, none⟩ = some (.slice ha hl hc) := hBx.cell 6
  have p0 : W.cell? ⟨P, 0, none⟩ = some (.slice (some ⟨g, 0, none⟩) 2 cap) := hJ0.pr.cell 0
  have pl := hJ0.pr.lt
  have rk : W.cell? ⟨g, k, none⟩ = some (.pointer (some ⟨sd k, 0, none⟩)) := pair_at hJ0.row hk
  have gl : g < W.heap.size := by obtain ⟨t, ht⟩ := hJ0.row; exact ht.lt
  have sk0 : W.cell? ⟨sd k, 0, none⟩ = some (.pointer (some ⟨eb k, 0, none⟩)) := (hJ0.side k hk).cell 0
  have skl := (hJ0.side k hk).lt
  have hcap := hJ0.cap2
  have hJd := hJ0.below (below_dn (Below.refl _ W) 1)
  have HC := hide (move_any w0 P g cap sd eb e d mv ml pipe n k j a W hk hj hkj hn hbd hJ0 hS)
  clear hJ hJ0 hJd hBx hbW hftw hS hbd
  go_enter Tryz.func13, Tryz.ntmps13
  go_wp2_with fail
  refine (unhide HC).mono ?_
  rintro r w1 ⟨rfl, h1⟩
  have HFIN := hide h1
  clear h1 HC
  go_wp2_with fail
  go_ret
  exact ⟨rfl, unhide HFIN⟩

set_option maxHeartbeats 4000000 in
set_option maxRecDepth 100000 in
theorem step_other (w0 : World) (P g cap : Nat) (sd eb : Nat → Nat) (e : Nat → Lk.En) (d : Nat → PD) (mv : Nat → Value) (ml : Nat → List Ms) (pipe : Nat → Lk.Bs) (n k : Nat) (a b c : Int) (st tt : ByteArray) (ha : Option Addr) (hl hc : Nat) (rs : Bool) (kd : Int) (w : World) (hk : k < 2) (hb : bits .and .i64 b 1 = (k : Int)) (hJ : JP w0 P g cap sd eb e d mv ml pipe w) (hkd : kd ≠ 9 ∧ kd ≠ 10 ∧ kd ≠ 11 ∧ kd ≠ 12 ∧ kd ≠ 13 ∧ kd ≠ 14 ∧ kd ≠ 16) :
    Calls Tryz.prog 13 #[.pointer (some ⟨P, 0, none⟩), .agg #[.int .i64 kd, .int .i64 a, .int .i64 b, .string st, .string tt, .int .i64 c, .slice ha hl hc], .bool rs] w fun r w' => r = .returned (.bool true) ∧ JP w0 P g cap sd eb e d mv ml pipe w' := by
  have hk1 : (k : Int) < 2 := by omega
  have hBx := Is.new w 33 [.int .i64 kd, .int .i64 a, .int .i64 b, .string st, .string tt, .int .i64 c, .slice ha hl hc]
  have hbW := (Below.refl w.heap.size w).alloc (Nat.le_refl _) (.cells #[.int .i64 kd, .int .i64 a, .int .i64 b, .string st, .string tt, .int .i64 c, .slice ha hl hc] 33)
  have hJ0 := hJ.below hbW
  have hftw : ∀ i, foot (eb k) (d k) i → i < w.heap.size := (hJ.pe k hk).lt
  have hwW : w.heap.size < (w.alloc (.cells #[.int .i64 kd, .int .i64 a, .int .i64 b, .string st, .string tt, .int .i64 c, .slice ha hl hc] 33)).heap.size := by simp
  generalize hW : w.alloc (.cells #[.int .i64 kd, .int .i64 a, .int .i64 b, .string st, .string tt, .int .i64 c, .slice ha hl hc] 33) = W at *
  have o0 : W.cell? ⟨w.heap.size, 0, none⟩ = some (.int .i64 kd) := hBx.cell 0
  have o1 : W.cell? ⟨w.heap.size, 1, none⟩ = some (.int .i64 a) := hBx.cell 1
  have o2 : W.cell? ⟨w.heap.size, 2, none⟩ = some (.int .i64 b) := hBx.cell 2
  have o3 : W.cell? ⟨w.heap.size, 3, none⟩ = some (.string st) := hBx.cell 3
  have o4 : W.cell? ⟨w.heap.size, 4, none⟩ = some (.string tt) := hBx.cell 4
  have o5 : W.cell? ⟨w.heap.size, 5, none⟩ = some (.int .i64 c) := hBx.cell 5
  have o6 : W.cell? ⟨w.heap.size, 6, none⟩ = some (.slice ha hl hc) := hBx.cell 6
  have p0 : W.cell? ⟨P, 0, none⟩ = some (.slice (some ⟨g, 0, none⟩) 2 cap) := hJ0.pr.cell 0
  have pl := hJ0.pr.lt
  have rk : W.cell? ⟨g, k, none⟩ = some (.pointer (some ⟨sd k, 0, none⟩)) := pair_at hJ0.row hk
  have gl : g < W.heap.size := by obtain ⟨t, ht⟩ := hJ0.row; exact ht.lt
  have sk0 : W.cell? ⟨sd k, 0, none⟩ = some (.pointer (some ⟨eb k, 0, none⟩)) := (hJ0.side k hk).cell 0
  have skl := (hJ0.side k hk).lt
  have hcap := hJ0.cap2
  have hJd := hJ0.below (below_dn (Below.refl _ W) 1)
  have n9 : (kd == 9) = false := by simp; omega
  have n10 : (kd == 10) = false := by simp; omega
  have n11 : (kd == 11) = false := by simp; omega
  have n12 : (kd == 12) = false := by simp; omega
  have n13 : (kd == 13) = false := by simp; omega
  have n14 : (kd == 14) = false := by simp; omega
  have n16 : (kd == 16) = false := by simp; omega
  have HX := hide hJ0
  clear hJ hJ0 hJd hBx hbW hftw hkd
  go_enter Tryz.func13, Tryz.ntmps13
  go_wp2_with fail
  go_ret
  exact ⟨rfl, unhide HX⟩

/-- What is told of a message is no longer than the message. -/
theorem hear1_le {s : Nat} {H : List (List Lk.Hd)} {bd : Nat → Lk.Bs} {G G1 : List (Lk.Bs × Bool)} {v : Lk.Ev} (hb : ∀ i, (bd i).length ≤ 300) (hG : ∀ g ∈ G, g.1.length ≤ 300) (h : Lk.hear1 s H bd G v = some G1) : ∀ g ∈ G1, g.1.length ≤ 300 := by
  by_cases h1 : v.k = 1
  · obtain ⟨_, _, rfl⟩ := hear1_one h h1
    intro g hg
    rcases List.mem_append.1 hg with hg | hg
    · exact hG g hg
    · simp at hg
      subst hg
      simp
  · by_cases h2 : v.k = 2 ∨ v.k = 3
    · obtain ⟨n, b, _, hgn, h3, h4⟩ := hear1_two h h2
      intro g hg
      rcases h2 with h2 | h2
      · obtain ⟨hp, rfl⟩ := h4 h2
        rcases List.mem_or_eq_of_mem_set hg with hg | rfl
        · exact hG g hg
        · exact Nat.le_trans hp.length_le (hb n)
      · obtain ⟨hp, rfl⟩ := h3 h2
        rcases List.mem_or_eq_of_mem_set hg with hg | rfl
        · exact hG g hg
        · show b.length ≤ 300
          rw [hp]
          exact hb n
    · rw [Lk.hear1_other ⟨h1, fun e => h2 (.inl e), fun e => h2 (.inr e)⟩] at h
      cases h
      exact hG
theorem hearL_le {s : Nat} {H : List (List Lk.Hd)} {bd : Nat → Lk.Bs} (hb : ∀ i, (bd i).length ≤ 300) : ∀ (l : List Lk.Ev) {G G1 : List (Lk.Bs × Bool)}, (∀ g ∈ G, g.1.length ≤ 300) → Lk.hearL s H bd G l = some G1 → ∀ g ∈ G1, g.1.length ≤ 300
  | [], G, G1, hG, h => by rw [Lk.hearL] at h; cases h; exact hG
  | v :: l, G, G1, hG, h => by
    rw [Lk.hearL] at h
    cases hx : Lk.hear1 s H bd G v with
    | none => rw [hx] at h; cases h
    | some X =>
      rw [hx] at h
      exact hearL_le hb l (hear1_le hb hG hx) h
theorem bdF_le {l : List Ms} (h : ∀ m ∈ l, m.body.length ≤ 300) (i : Nat) : (bdF l i).length ≤ 300 := by
  unfold bdF
  cases hx : l[i]? with
  | none => simp
  | some m => exact h m (List.mem_of_getElem? hx)
theorem gtL_le {l : List Ms} : (∀ m ∈ l, m.body.length ≤ 300) ↔ ∀ g ∈ gtL l, g.1.length ≤ 300 := by
  unfold gtL
  simp
theorem submitC_le {e : Lk.En} {l : List Lk.Hd} {body : Lk.Bs} (h : (e.submitC l body).1.2.1 = 0) : body.length ≤ 300 := by
  unfold Lk.En.submitC at h
  split at h
  · cases h
  · split at h
    · cases h
    · split at h
      · rename_i hw
        exact absurd h hw
      · split at h
        · cases h
        · omega
/-- The bodies are small. -/
def Bd (ml : Nat → List Ms) : Prop := ∀ q, q < 4 → ∀ m ∈ ml q, m.body.length ≤ 300
theorem Bd.push {ml : Nat → List Ms} (h : Bd ml) {k : Nat} {m : Ms} (hm : m.body.length ≤ 300) : Bd (upd ml k (ml k ++ [m])) := by
  intro q hq x hx
  by_cases hqk : q = k
  · subst hqk
    rw [upd_same] at hx
    rcases List.mem_append.1 hx with hx | hx
    · exact h q hq x hx
    · simp at hx
      subst hx
      exact hm
  · rw [upd_other _ _ hqk] at hx
    exact h q hq x hx
theorem Bd.set {ml : Nat → List Ms} (h : Bd ml) {k i : Nat} {m x : Ms} (hk : k < 4) (hx : (ml k)[i]? = some x) (hm : m.body = x.body) : Bd (upd ml k ((ml k).set i m)) := by
  intro q hq y hy
  by_cases hqk : q = k
  · subst hqk
    rw [upd_same] at hy
    rcases List.mem_or_eq_of_mem_set hy with hy | rfl
    · exact h q hq y hy
    · rw [hm]
      exact h q hq x (List.mem_of_getElem? hx)
  · rw [upd_other _ _ hqk] at hy
    exact h q hq y hy
theorem Bd.gone {ml ml' : Nat → List Ms} (h : Bd ml) (hg : GoneR ml ml') : Bd ml' := by
  intro q hq
  by_cases hq2 : q < 2
  · exact bd300 (hg q hq2).1 (hg q hq2).2.1 (h q hq)
  · obtain ⟨r, rfl, hr⟩ : ∃ r, q = r + 2 ∧ r < 2 := ⟨q - 2, by omega, by omega⟩
    rw [(hg r hr).2.2]
    exact h (r + 2) hq
theorem Bd.moved {e : Nat → Lk.En} {ml ml' : Nat → List Ms} {k j : Nat} {x : Lk.Bs} (h : Bd ml) (hk : k < 2) (hj : j < 2) (hkj : k ≠ j) (h1 : ∀ q, q < 2 → hsL (ml' q) = hsL (ml q) ∧ bdF (ml' q) = bdF (ml q) ∧ etF (ml' (q + 2)) = etF (ml (q + 2))) (h2 : gtL (ml' (j + 2)) = gtL (ml (j + 2))) (h3 : Lk.hearL k (hsL (ml k)) (bdF (ml k)) (gtL (ml (k + 2))) ((e j).feed x).1 = some (gtL (ml' (k + 2)))) : Bd ml' := by
  intro q hq
  by_cases hq2 : q < 2
  · exact bd300 (h1 q hq2).1 (h1 q hq2).2.1 (h q hq)
  · obtain ⟨r, rfl, hr⟩ : ∃ r, q = r + 2 ∧ r < 2 := ⟨q - 2, by omega, by omega⟩
    have : r = k ∨ r = j := by omega
    rcases this with rfl | rfl
    · exact gtL_le.2 (hearL_le (bdF_le (h r (by omega))) _ (gtL_le.1 (h (r + 2) hq)) h3)
    · rw [gtL_le, h2, ← gtL_le]
      exact h (r + 2) hq

def JSt (w0 : World) (P g cap : Nat) (sd eb : Nat → Nat) (n : Nat) (w : World) : Prop := ∃ e d mv ml pipe, JP w0 P g cap sd eb e d mv ml pipe w ∧ JS e pipe ml n ∧ Bd ml
theorem step_any (w0 : World) (P g cap : Nat) (sd eb : Nat → Nat) (n : Nat) (o : Sc.OpJ) (w : World) (hn : n ≤ 2 ^ 21) (ho : o.Ok w) (h : JSt w0 P g cap sd eb n w) :
    Calls Tryz.prog 13 #[.pointer (some ⟨P, 0, none⟩), .agg #[.int .i64 o.kd, .int .i64 o.a, .int .i64 o.b, .string o.s, .string o.t, .int .i64 o.n, .slice o.ha o.hl o.hc], .bool true] w fun r w' => r = .returned (.bool true) ∧ JSt w0 P g cap sd eb (n + 1) w' := by
  obtain ⟨e, d, mv, ml, pipe, hJ, hS, hB⟩ := h
  obtain ⟨k, hk1, hb⟩ := side_one o.b
  have hk : k < 2 := by omega
  obtain ⟨j, hj, hkj⟩ : ∃ j, j < 2 ∧ k ≠ j := ⟨1 - k, by omega, by omega⟩
  have hB2 : ∀ q, q < 2 → ∀ m ∈ ml q, m.body.length ≤ 300 := fun q hq => hB q (by omega)
  obtain ⟨kd, a, b, st, tt, c, ha, hl, hc, l⟩ := o
  obtain ⟨o1, o2, o3, o4, o5, o6⟩ := ho
  simp only at *
  by_cases h9 : kd = 9
  · subst h9
    refine (step_submit w0 P g cap sd eb e d mv ml pipe n k a b c st tt ha hl hc true w hk hb hJ l (by omega) o3 hS).mono ?_
    rintro r w' ⟨rfl, d', mv', ml', h1, h2, h3⟩
    refine ⟨rfl, _, d', mv', ml', pipe, h1, h2, ?_⟩
    rcases h3 with ⟨_, rfl⟩ | ⟨h0, hv, rfl⟩
    · exact hB
    · exact hB.push (submitC_le h0)
  by_cases h10 : kd = 10
  · subst h10
    refine (step_consume w0 P g cap sd eb e d mv ml pipe n k a b c st tt ha hl hc true w hk hb hJ j hj hkj o5 (hB (j + 2) (by omega)) hS).mono ?_
    rintro r w' ⟨rfl, d', ml', h1, h2, h3⟩
    refine ⟨rfl, _, d', mv, ml', pipe, h1, h2, ?_⟩
    rcases h3 with ⟨_, rfl⟩ | ⟨_, i, x, hx, _, _, rfl⟩
    · exact hB
    · exact hB.set (by omega) hx rfl
  by_cases h11 : kd = 11
  · subst h11
    refine (step_reset w0 P g cap sd eb e d mv ml pipe n k a b c st tt ha hl hc w hk hb hJ j hj hkj o5 hS).mono ?_
    rintro r w' ⟨rfl, d', ml', h1, h2⟩
    exact ⟨rfl, _, d', mv, ml', pipe, h1, h2.js (hS.reset hk hj hkj a c).1, hB.gone h2⟩
  by_cases h12 : kd = 12
  · subst h12
    refine (step_ping w0 P g cap sd eb e d mv ml pipe n k a b c st tt ha hl hc true w hk hb hJ hS).mono ?_
    rintro r w' ⟨rfl, d', h1⟩
    exact ⟨rfl, _, d', mv, ml, pipe, h1, (hS.ping hk _).1, hB⟩
  by_cases h13 : kd = 13
  · subst h13
    refine (step_bye w0 P g cap sd eb e d mv ml pipe n k a b c st tt ha hl hc w hk hb hJ).mono ?_
    rintro r w' ⟨rfl, d', h1⟩
    exact ⟨rfl, _, d', mv, ml, pipe, h1, hS.bye hk, hB⟩
  by_cases h14 : kd = 14
  · subst h14
    refine (step_drain w0 P g cap sd eb e d mv ml pipe n k a b c st tt ha hl hc true w hk hb hJ o5.2 hS hn).mono ?_
    rintro r w' ⟨rfl, d', h1⟩
    exact ⟨rfl, _, d', mv, ml, _, h1, (hS.drain hk a.toNat).later (by omega), hB⟩
  by_cases h16 : kd = 16
  · subst h16
    refine (step_move w0 P g cap sd eb e d mv ml pipe n k a b c st tt ha hl hc true w hk hb hJ j hj hkj hn hB2 hS).mono ?_
    rintro r w' ⟨rfl, d', mv', ml', h1, h2, h3, h4, h5⟩
    exact ⟨rfl, _, d', mv', ml', _, h1, h2, hB.moved hk hj hkj h3 h4 h5⟩
  · refine (step_other w0 P g cap sd eb e d mv ml pipe n k a b c st tt ha hl hc true kd w hk hb hJ ⟨h9, h10, h11, h12, h13, h14, h16⟩).mono ?_
    rintro r w' ⟨rfl, h1⟩
    exact ⟨rfl, _, d, mv, ml, pipe, h1, hS.later (by omega), hB⟩

set_option maxHeartbeats 2000000 in
set_option maxRecDepth 100000 in
theorem joined_some (window : Int) (w : World) (blk off len cap : Nat) (ops : Nat → Sc.OpJ) (hI1 : -9223372036854775808 ≤ window) (hI2 : window ≤ 9223372036854775807) (hlen : len ≤ 1048576) (hfx : Fx w) (hS : Sc.ScriptJ w blk off len ops) :
    Calls Tryz.prog 6 #[.int .i64 window, .slice (some ⟨blk, off, none⟩) len cap] w fun e w' => e = .returned (.bool true) ∧ Below w.heap.size w w' := by
  have hw199 := bndN_le window
  have hst := JS.start (win := 1 + bndN window) (by omega) (by omega)
  have HST := hide hst
  have HP := hide (pair_any window w hfx hI1 hI2)
  clear hfx hst
  go_enter Tryz.func6, Tryz.ntmps6
  go_wp2_with fail
  refine (unhide HP).mono ?_
  rintro r w1 ⟨P, rfl, g, gcap, sd, eb, d, hJ⟩
  have HJ0 : Hid (JSt w P g gcap sd eb 0 w1 ∧ Below w.heap.size w w1) := ⟨⟨_, d, _, _, _, hJ, unhide HST, fun q _ m hm => by cases hm⟩, hJ.bel⟩
  clear hJ HST HP
  go_wp2_with fail
  go_loopw [7] (fun u wr => ∃ i : Nat, i ≤ len ∧ u = .int .i64 i ∧ Hid (JSt w P g gcap sd eb i wr ∧ Below w.heap.size w wr)) (fun u _ => len - (intOf u).toNat)
  case atStart => exact ⟨0, Nat.zero_le _, rfl, HJ0⟩
  case round =>
    clear HJ0
    obtain ⟨i, hi, rfl, HR⟩ := hrel
    obtain ⟨hR, hbel⟩ := unhide HR
    by_cases hlt : i < len
    · have hlt' : (i : Int) < len := by omega
      have hi60 : (i : Int) < 1152921504606846976 := by omega
      obtain ⟨hok, hcs⟩ := hS.2 i hlt
      have hok' : (ops i).Ok wr := ⟨hok.s, hok.h, hok.strs.below hbel (Nat.le_refl _), hok.kd, hok.a, hok.n⟩
      have hcell : ∀ j, j < 7 → wr.cell? ⟨blk, off + i * 7 + j, none⟩ = (ops i).vals[j]? := fun j hj => (hbel.cell (p := ⟨blk, off + i * 7 + j, none⟩) hS.1).trans (hcs j hj)
      have HC := hide (step_any w P g gcap sd eb i (ops i) wr (by omega) hok' hR)
      have HBE := hide hbel
      generalize ops i = o at *
      obtain ⟨kd, a, b, s, tt, c, ha, hl, hc, l⟩ := o
      have c0 := hcell 0 (by omega)
      have c1 := hcell 1 (by omega)
      have c2 := hcell 2 (by omega)
      have c3 := hcell 3 (by omega)
      have c4 := hcell 4 (by omega)
      have c5 := hcell 5 (by omega)
      have c6 := hcell 6 (by omega)
      simp only [Sc.OpJ.vals, List.getElem?_cons_zero, List.getElem?_cons_succ, Nat.add_zero] at c0 c1 c2 c3 c4 c5 c6
      simp only at HC
      have hblk : blk < wr.heap.size := Nat.lt_of_lt_of_le hS.1 hbel.size
      clear hcell hcs hok hok' hR hbel HR
      go_wp2_with fail
      refine (unhide HC).mono ?_
      rintro r w2 ⟨rfl, hN⟩
      have HN : Hid (JSt w P g gcap sd eb (i + 1) w2 ∧ Below w.heap.size w w2) := ⟨hN, by obtain ⟨_, _, _, _, _, h1, _, _⟩ := hN; exact h1.bel⟩
      clear hN HC
      go_wp2_with fail
      go_roundw
      case rel => exact ⟨i + 1, by omega, by go_num, unhide HN⟩
      case measure => simp [intOf]; omega
    · have hlt' : ¬ (i : Int) < len := by omega
      clear hR
      go_wp2_with fail
      go_ret
      exact ⟨rfl, hbel⟩
theorem joined_none (window : Int) (w : World) (ad : Option Addr) (cap : Nat) (hI1 : -9223372036854775808 ≤ window) (hI2 : window ≤ 9223372036854775807) (hfx : Fx w) :
    Calls Tryz.prog 6 #[.int .i64 window, .slice ad 0 cap] w fun e w' => e = .returned (.bool true) ∧ Below w.heap.size w w' := by
  have HP := hide (pair_any window w hfx hI1 hI2)
  clear hfx
  go_enter Tryz.func6, Tryz.ntmps6
  go_wp2_with fail
  refine (unhide HP).mono ?_
  rintro r w1 ⟨P, rfl, g, gcap, sd, eb, d, hJ⟩
  have HB := hide hJ.bel
  clear hJ HP
  go_wp2_with fail
  refine wp_loop_rounds 1 ?_
  rw [rounds_succ]
  go_wp2_with fail
  go_ret
  exact ⟨rfl, unhide HB⟩

end Go.Proofs.YtbkpdapagfjmmaaGreatDoor
