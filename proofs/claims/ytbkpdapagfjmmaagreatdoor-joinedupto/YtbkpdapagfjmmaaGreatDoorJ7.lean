import Derived.Test.YtbkpdapagfjmmaaGreatDoorMJ4FQ
import Derived.Test.YtbkpdapagfjmmaaGreatDoorMJ6S3
import Derived.Test.YtbkpdapagfjmmaaGreatDoorML3L4
import Derived.BigRegion
/-
  Walks: the steps of a pair.
-/
set_option linter.unusedVariables false
namespace Go.Proofs.YtbkpdapagfjmmaaGreatDoor
open Go.RowKit

theorem opx_keep {w W wc : World} {eb : Nat} {d : PD} {T : TypeId} {cs : List Value} (hI : Is W w.heap.size T cs) (hO : Only (foot eb d) W wc) (hft : ∀ i, foot eb d i → i < w.heap.size) : Is wc w.heap.size T cs := hI.only hO (fun hf => by have := hft _ hf; omega)
theorem drop1 {S : Nat → Prop} {W wc : World} (h : Only S (W.drewN 1) wc) : Only S W wc := ⟨h.os, h.tape, h.output, h.size, h.block⟩

set_option maxHeartbeats 4000000 in
set_option maxRecDepth 100000 in
theorem step_ping (w0 : World) (P g cap : Nat) (sd eb : Nat → Nat) (e : Nat → Lk.En) (d : Nat → PD) (mv : Nat → Value) (ml : Nat → List Ms) (pipe : Nat → Lk.Bs) (n k : Nat) (a b c : Int) (st tt : ByteArray) (ha : Option Addr) (hl hc : Nat) (rs : Bool) (w : World) (hk : k < 2) (hb : bits .and .i64 b 1 = (k : Int)) (hJ : JP w0 P g cap sd eb e d mv ml pipe w) (hS : JS e pipe ml n) :
    Calls Tryz.prog 13 #[.pointer (some ⟨P, 0, none⟩), .agg #[.int .i64 12, .int .i64 a, .int .i64 b, .string st, .string tt, .int .i64 c, .slice ha hl hc], .bool rs] w fun r w' => r = .returned (.bool true) ∧ ∃ d', JP w0 P g cap sd eb (upd e k ((e k).pingC st.data.toList).2) d' mv ml pipe w' := by
  have hk1 : (k : Int) < 2 := by omega
  have hBx := Is.new w 33 [.int .i64 12, .int .i64 a, .int .i64 b, .string st, .string tt, .int .i64 c, .slice ha hl hc]
  have hbW := (Below.refl w.heap.size w).alloc (Nat.le_refl _) (.cells #[.int .i64 12, .int .i64 a, .int .i64 b, .string st, .string tt, .int .i64 c, .slice ha hl hc] 33)
  have hJ0 := hJ.below hbW
  have hftw : ∀ i, foot (eb k) (d k) i → i < w.heap.size := (hJ.pe k hk).lt
  have hwW : w.heap.size < (w.alloc (.cells #[.int .i64 12, .int .i64 a, .int .i64 b, .string st, .string tt, .int .i64 c, .slice ha hl hc] 33)).heap.size := by simp
  generalize hW : w.alloc (.cells #[.int .i64 12, .int .i64 a, .int .i64 b, .string st, .string tt, .int .i64 c, .slice ha hl hc] 33) = W at *
  have o0 : W.cell? ⟨w.heap.size, 0, none⟩ = some (.int .i64 12) := hBx.cell 0
  have o1 : W.cell? ⟨w.heap.size, 1, none⟩ = some (.int .i64 a) := hBx.cell 1
  have o2 : W.cell? ⟨w.heap.size, 2, none⟩ = some (.int .i64 b) := hBx.cell 2
  have o3 : W.cell? ⟨w.heap.size, 3, none⟩ = some (.string st) := hBx.cell 3
  have o5 : W.cell? ⟨w.heap.size, 5, none⟩ = some (.int .i64 c) := hBx.cell 5
  have o6 : W.cell? ⟨w.heap.size, 6, none⟩ = some (.slice ha hl hc) := hBx.cell 6
  have p0 : W.cell? ⟨P, 0, none⟩ = some (.slice (some ⟨g, 0, none⟩) 2 cap) := hJ0.pr.cell 0
  have pl := hJ0.pr.lt
  have rk : W.cell? ⟨g, k, none⟩ = some (.pointer (some ⟨sd k, 0, none⟩)) := pair_at hJ0.row hk
  have gl : g < W.heap.size := by obtain ⟨t, ht⟩ := hJ0.row; exact ht.lt
  have sk0 : W.cell? ⟨sd k, 0, none⟩ = some (.pointer (some ⟨eb k, 0, none⟩)) := (hJ0.side k hk).cell 0
  have skl := (hJ0.side k hk).lt
  have hcap := hJ0.cap2
  have hJd := hJ0.below (below_dn (Below.refl _ W) 1)
  have HC := hide (ping_p (eb k) (e k) (d k) st (W.drewN 1) (hJd.pe k hk))
  have hor := (hS.ping hk st.data.toList).2
  rw [← size_list] at hor
  generalize ((e k).pingC st.data.toList).1 = cd at *
  generalize ((e k).pingC st.data.toList).2 = e' at *
  have HX := hide (⟨hBx, hJd, hftw, hor⟩ : _ ∧ _ ∧ _ ∧ _)
  clear hJ hJ0 hJd hBx hbW hftw hor hS
  go_enter Tryz.func13, Tryz.ntmps13
  go_wp2_with fail
  go_cut [16] (fun s16 wc => s16 = .int .i64 (cd : Int) ∧ Hid (PPost (W.drewN 1) (eb k) (d k) e' wc))
  case first =>
    go_region_with (first | (go_at_call 33; refine (unhide HC).mono ?_; rintro r w1 ⟨rfl, hP⟩))
    all_goals
      go_wp2_with fail
      go_meet
      exact ⟨rfl, hP⟩
  case rest =>
    obtain ⟨rfl, HP⟩ := hcut
    obtain ⟨hBx, hJd, hftw, hor⟩ := unhide HX
    obtain ⟨d', h1, h2, h3⟩ := unhide HP
    have hB1 := opx_keep hBx (drop1 h3) hftw
    have x3 : wc.cell? ⟨w.heap.size, 3, none⟩ = some (.string st) := hB1.cell 3
    have xl := hB1.lt
    have HFIN := hide (hJd.call hk h1 h2 h3)
    clear hBx hJd hftw h1 h2 h3 hB1 HP HX HC o0 o1 o2 o3 o5 o6 p0 rk sk0
    rcases hor with h0 | h8
    · subst h0
      go_wp2_with (go_at_call 18; refine (num_any _ _).mono ?_; rintro e w4 ⟨rfl, rfl⟩)
      go_ret
      exact ⟨rfl, _, unhide HFIN⟩
    · by_cases h0 : cd = 0
      · subst h0
        clear h8
        go_wp2_with (go_at_call 18; refine (num_any _ _).mono ?_; rintro e w4 ⟨rfl, rfl⟩)
        go_ret
        exact ⟨rfl, _, unhide HFIN⟩
      · have h0' : ((cd : Int) == 0) = false := by simp; omega
        have h8' : ((st.size : Int) != 8) = true := by simp; omega
        clear h0 h8
        go_wp2_with (go_at_call 18; refine (num_any _ _).mono ?_; rintro e w4 ⟨rfl, rfl⟩)
        go_ret
        exact ⟨rfl, _, unhide HFIN⟩

set_option maxHeartbeats 4000000 in
set_option maxRecDepth 100000 in
theorem step_bye (w0 : World) (P g cap : Nat) (sd eb : Nat → Nat) (e : Nat → Lk.En) (d : Nat → PD) (mv : Nat → Value) (ml : Nat → List Ms) (pipe : Nat → Lk.Bs) (n k : Nat) (a b c : Int) (st tt : ByteArray) (ha : Option Addr) (hl hc : Nat) (w : World) (hk : k < 2) (hb : bits .and .i64 b 1 = (k : Int)) (hJ : JP w0 P g cap sd eb e d mv ml pipe w) :
    Calls Tryz.prog 13 #[.pointer (some ⟨P, 0, none⟩), .agg #[.int .i64 13, .int .i64 a, .int .i64 b, .string st, .string tt, .int .i64 c, .slice ha hl hc], .bool true] w fun r w' => r = .returned (.bool true) ∧ ∃ d', JP w0 P g cap sd eb (upd e k (e k).byeC'.2) d' mv ml pipe w' := by
  have hk1 : (k : Int) < 2 := by omega
  have hBx := Is.new w 33 [.int .i64 13, .int .i64 a, .int .i64 b, .string st, .string tt, .int .i64 c, .slice ha hl hc]
  have hbW := (Below.refl w.heap.size w).alloc (Nat.le_refl _) (.cells #[.int .i64 13, .int .i64 a, .int .i64 b, .string st, .string tt, .int .i64 c, .slice ha hl hc] 33)
  have hJ0 := hJ.below hbW
  have hftw : ∀ i, foot (eb k) (d k) i → i < w.heap.size := (hJ.pe k hk).lt
  have hwW : w.heap.size < (w.alloc (.cells #[.int .i64 13, .int .i64 a, .int .i64 b, .string st, .string tt, .int .i64 c, .slice ha hl hc] 33)).heap.size := by simp
  generalize hW : w.alloc (.cells #[.int .i64 13, .int .i64 a, .int .i64 b, .string st, .string tt, .int .i64 c, .slice ha hl hc] 33) = W at *
  have o0 : W.cell? ⟨w.heap.size, 0, none⟩ = some (.int .i64 13) := hBx.cell 0
  have o1 : W.cell? ⟨w.heap.size, 1, none⟩ = some (.int .i64 a) := hBx.cell 1
  have o2 : W.cell? ⟨w.heap.size, 2, none⟩ = some (.int .i64 b) := hBx.cell 2
  have o3 : W.cell? ⟨w.heap.size, 3, none⟩ = some (.string st) := hBx.cell 3
  have o5 : W.cell? ⟨w.heap.size, 5, none⟩ = some (.int .i64 c) := hBx.cell 5
  have o6 : W.cell? ⟨w.heap.size, 6, none⟩ = some (.slice ha hl hc) := hBx.cell 6
  have p0 : W.cell? ⟨P, 0, none⟩ = some (.slice (some ⟨g, 0, none⟩) 2 cap) := hJ0.pr.cell 0
  have pl := hJ0.pr.lt
  have rk : W.cell? ⟨g, k, none⟩ = some (.pointer (some ⟨sd k, 0, none⟩)) := pair_at hJ0.row hk
  have gl : g < W.heap.size := by obtain ⟨t, ht⟩ := hJ0.row; exact ht.lt
  have sk0 : W.cell? ⟨sd k, 0, none⟩ = some (.pointer (some ⟨eb k, 0, none⟩)) := (hJ0.side k hk).cell 0
  have skl := (hJ0.side k hk).lt
  have hcap := hJ0.cap2
  have hJd := hJ0.below (below_dn (Below.refl _ W) 1)
  have HC := hide (bye_p (eb k) (e k) (d k) W (hJ0.pe k hk))
  generalize (e k).byeC'.1 = cd at *
  generalize (e k).byeC'.2 = e' at *
  have HX := hide hJ0
  clear hJ hJ0 hJd hBx hbW hftw
  go_enter Tryz.func13, Tryz.ntmps13
  go_wp2_with fail
  refine (unhide HC).mono ?_
  rintro r w1 ⟨rfl, d', h1, h2, h3⟩
  have HFIN := hide ((unhide HX).call hk h1 h2 h3)
  clear h1 h2 h3 HX HC
  go_wp2_with fail
  go_ret
  exact ⟨rfl, _, unhide HFIN⟩

set_option maxHeartbeats 4000000 in
set_option maxRecDepth 100000 in
theorem step_noBye (w0 : World) (P g cap : Nat) (sd eb : Nat → Nat) (e : Nat → Lk.En) (d : Nat → PD) (mv : Nat → Value) (ml : Nat → List Ms) (pipe : Nat → Lk.Bs) (n k : Nat) (a b c : Int) (st tt : ByteArray) (ha : Option Addr) (hl hc : Nat) (w : World) (hk : k < 2) (hb : bits .and .i64 b 1 = (k : Int)) (hJ : JP w0 P g cap sd eb e d mv ml pipe w) :
    Calls Tryz.prog 13 #[.pointer (some ⟨P, 0, none⟩), .agg #[.int .i64 13, .int .i64 a, .int .i64 b, .string st, .string tt, .int .i64 c, .slice ha hl hc], .bool false] w fun r w' => r = .returned (.bool true) ∧ JP w0 P g cap sd eb e d mv ml pipe w' := by
  have hk1 : (k : Int) < 2 := by omega
  have hBx := Is.new w 33 [.int .i64 13, .int .i64 a, .int .i64 b, .string st, .string tt, .int .i64 c, .slice ha hl hc]
  have hbW := (Below.refl w.heap.size w).alloc (Nat.le_refl _) (.cells #[.int .i64 13, .int .i64 a, .int .i64 b, .string st, .string tt, .int .i64 c, .slice ha hl hc] 33)
  have hJ0 := hJ.below hbW
  have hftw : ∀ i, foot (eb k) (d k) i → i < w.heap.size := (hJ.pe k hk).lt
  have hwW : w.heap.size < (w.alloc (.cells #[.int .i64 13, .int .i64 a, .int .i64 b, .string st, .string tt, .int .i64 c, .slice ha hl hc] 33)).heap.size := by simp
  generalize hW : w.alloc (.cells #[.int .i64 13, .int .i64 a, .int .i64 b, .string st, .string tt, .int .i64 c, .slice ha hl hc] 33) = W at *
  have o0 : W.cell? ⟨w.heap.size, 0, none⟩ = some (.int .i64 13) := hBx.cell 0
  have o1 : W.cell? ⟨w.heap.size, 1, none⟩ = some (.int .i64 a) := hBx.cell 1
  have o2 : W.cell? ⟨w.heap.size, 2, none⟩ = some (.int .i64 b) := hBx.cell 2
  have o3 : W.cell? ⟨w.heap.size, 3, none⟩ = some (.string st) := hBx.cell 3
  have o5 : W.cell? ⟨w.heap.size, 5, none⟩ = some (.int .i64 c) := hBx.cell 5
  have o6 : W.cell? ⟨w.heap.size, 6, none⟩ = some (.slice ha hl hc) := hBx.cell 6
  have p0 : W.cell? ⟨P, 0, none⟩ = some (.slice (some ⟨g, 0, none⟩) 2 cap) := hJ0.pr.cell 0
  have pl := hJ0.pr.lt
  have rk : W.cell? ⟨g, k, none⟩ = some (.pointer (some ⟨sd k, 0, none⟩)) := pair_at hJ0.row hk
  have gl : g < W.heap.size := by obtain ⟨t, ht⟩ := hJ0.row; exact ht.lt
  have sk0 : W.cell? ⟨sd k, 0, none⟩ = some (.pointer (some ⟨eb k, 0, none⟩)) := (hJ0.side k hk).cell 0
  have skl := (hJ0.side k hk).lt
  have hcap := hJ0.cap2
  have hJd := hJ0.below (below_dn (Below.refl _ W) 1)
  have HX := hide hJ0
  clear hJ hJ0 hJd hBx hbW hftw
  go_enter Tryz.func13, Tryz.ntmps13
  go_wp2_with fail
  go_ret
  exact ⟨rfl, unhide HX⟩

set_option maxHeartbeats 4000000 in
set_option maxRecDepth 100000 in
theorem step_noReset (w0 : World) (P g cap : Nat) (sd eb : Nat → Nat) (e : Nat → Lk.En) (d : Nat → PD) (mv : Nat → Value) (ml : Nat → List Ms) (pipe : Nat → Lk.Bs) (n k : Nat) (a b c : Int) (st tt : ByteArray) (ha : Option Addr) (hl hc : Nat) (w : World) (hk : k < 2) (hb : bits .and .i64 b 1 = (k : Int)) (hJ : JP w0 P g cap sd eb e d mv ml pipe w) :
    Calls Tryz.prog 13 #[.pointer (some ⟨P, 0, none⟩), .agg #[.int .i64 11, .int .i64 a, .int .i64 b, .string st, .string tt, .int .i64 c, .slice ha hl hc], .bool false] w fun r w' => r = .returned (.bool true) ∧ JP w0 P g cap sd eb e d mv ml pipe w' := by
  have hk1 : (k : Int) < 2 := by omega
  have hBx := Is.new w 33 [.int .i64 11, .int .i64 a, .int .i64 b, .string st, .string tt, .int .i64 c, .slice ha hl hc]
  have hbW := (Below.refl w.heap.size w).alloc (Nat.le_refl _) (.cells #[.int .i64 11, .int .i64 a, .int .i64 b, .string st, .string tt, .int .i64 c, .slice ha hl hc] 33)
  have hJ0 := hJ.below hbW
  have hftw : ∀ i, foot (eb k) (d k) i → i < w.heap.size := (hJ.pe k hk).lt
  have hwW : w.heap.size < (w.alloc (.cells #[.int .i64 11, .int .i64 a, .int .i64 b, .string st, .string tt, .int .i64 c, .slice ha hl hc] 33)).heap.size := by simp
  generalize hW : w.alloc (.cells #[.int .i64 11, .int .i64 a, .int .i64 b, .string st, .string tt, .int .i64 c, .slice ha hl hc] 33) = W at *
  have o0 : W.cell? ⟨w.heap.size, 0, none⟩ = some (.int .i64 11) := hBx.cell 0
  have o1 : W.cell? ⟨w.heap.size, 1, none⟩ = some (.int .i64 a) := hBx.cell 1
  have o2 : W.cell? ⟨w.heap.size, 2, none⟩ = some (.int .i64 b) := hBx.cell 2
  have o3 : W.cell? ⟨w.heap.size, 3, none⟩ = some (.string st) := hBx.cell 3
  have o5 : W.cell? ⟨w.heap.size, 5, none⟩ = some (.int .i64 c) := hBx.cell 5
  have o6 : W.cell? ⟨w.heap.size, 6, none⟩ = some (.slice ha hl hc) := hBx.cell 6
  have p0 : W.cell? ⟨P, 0, none⟩ = some (.slice (some ⟨g, 0, none⟩) 2 cap) := hJ0.pr.cell 0
  have pl := hJ0.pr.lt
  have rk : W.cell? ⟨g, k, none⟩ = some (.pointer (some ⟨sd k, 0, none⟩)) := pair_at hJ0.row hk
  have gl : g < W.heap.size := by obtain ⟨t, ht⟩ := hJ0.row; exact ht.lt
  have sk0 : W.cell? ⟨sd k, 0, none⟩ = some (.pointer (some ⟨eb k, 0, none⟩)) := (hJ0.side k hk).cell 0
  have skl := (hJ0.side k hk).lt
  have hcap := hJ0.cap2
  have hJd := hJ0.below (below_dn (Below.refl _ W) 1)
  have HX := hide hJ0
  clear hJ hJ0 hJd hBx hbW hftw
  go_enter Tryz.func13, Tryz.ntmps13
  go_wp2_with fail
  go_ret
  exact ⟨rfl, unhide HX⟩

set_option maxHeartbeats 4000000 in
set_option maxRecDepth 100000 in
theorem step_drain (w0 : World) (P g cap : Nat) (sd eb : Nat → Nat) (e : Nat → Lk.En) (d : Nat → PD) (mv : Nat → Value) (ml : Nat → List Ms) (pipe : Nat → Lk.Bs) (n k : Nat) (a b c : Int) (st tt : ByteArray) (ha : Option Addr) (hl hc : Nat) (rs : Bool) (w : World) (hk : k < 2) (hb : bits .and .i64 b 1 = (k : Int)) (hJ : JP w0 P g cap sd eb e d mv ml pipe w) (ha64 : a ≤ 9223372036854775807) (hS : JS e pipe ml n) (hn : n ≤ 2 ^ 21) :
    Calls Tryz.prog 13 #[.pointer (some ⟨P, 0, none⟩), .agg #[.int .i64 14, .int .i64 a, .int .i64 b, .string st, .string tt, .int .i64 c, .slice ha hl hc], .bool rs] w fun r w' => r = .returned (.bool true) ∧ ∃ d', JP w0 P g cap sd eb (upd e k (Lk.En.drain a.toNat (e k)).2) d' mv ml (upd pipe k (pipe k ++ (Lk.En.drain a.toNat (e k)).1)) w' := by
  have hk1 : (k : Int) < 2 := by omega
  have hBx := Is.new w 33 [.int .i64 14, .int .i64 a, .int .i64 b, .string st, .string tt, .int .i64 c, .slice ha hl hc]
  have hbW := (Below.refl w.heap.size w).alloc (Nat.le_refl _) (.cells #[.int .i64 14, .int .i64 a, .int .i64 b, .string st, .string tt, .int .i64 c, .slice ha hl hc] 33)
  have hJ0 := hJ.below hbW
  have hftw : ∀ i, foot (eb k) (d k) i → i < w.heap.size := (hJ.pe k hk).lt
  have hwW : w.heap.size < (w.alloc (.cells #[.int .i64 14, .int .i64 a, .int .i64 b, .string st, .string tt, .int .i64 c, .slice ha hl hc] 33)).heap.size := by simp
  generalize hW : w.alloc (.cells #[.int .i64 14, .int .i64 a, .int .i64 b, .string st, .string tt, .int .i64 c, .slice ha hl hc] 33) = W at *
  have o0 : W.cell? ⟨w.heap.size, 0, none⟩ = some (.int .i64 14) := hBx.cell 0
  have o1 : W.cell? ⟨w.heap.size, 1, none⟩ = some (.int .i64 a) := hBx.cell 1
  have o2 : W.cell? ⟨w.heap.size, 2, none⟩ = some (.int .i64 b) := hBx.cell 2
  have o3 : W.cell? ⟨w.heap.size, 3, none⟩ = some (.string st) := hBx.cell 3
  have o5 : W.cell? ⟨w.heap.size, 5, none⟩ = some (.int .i64 c) := hBx.cell 5
  have o6 : W.cell? ⟨w.heap.size, 6, none⟩ = some (.slice ha hl hc) := hBx.cell 6
  have p0 : W.cell? ⟨P, 0, none⟩ = some (.slice (some ⟨g, 0, none⟩) 2 cap) := hJ0.pr.cell 0
  have pl := hJ0.pr.lt
  have rk : W.cell? ⟨g, k, none⟩ = some (.pointer (some ⟨sd k, 0, none⟩)) := pair_at hJ0.row hk
  have gl : g < W.heap.size := by obtain ⟨t, ht⟩ := hJ0.row; exact ht.lt
  have sk0 : W.cell? ⟨sd k, 0, none⟩ = some (.pointer (some ⟨eb k, 0, none⟩)) := (hJ0.side k hk).cell 0
  have skl := (hJ0.side k hk).lt
  have hcap := hJ0.cap2
  have hJd := hJ0.below (below_dn (Below.refl _ W) 1)
  have hdm := Lk.drain_mass a.toNat (hS.wf hk).1
  have hsm := hS.small hn hk
  have HC := hide (drain_any (eb k) (e k) (d k) a (W.drewN 1) (hJd.pe k hk) ha64 (by omega))
  have hsum : ¬ (bs (pipe k)).size + (bs (Lk.En.drain a.toNat (e k)).1).size > 9223372036854775807 := by
    rw [bs_size, bs_size]
    omega
  have hcat := bs_append (pipe k) (Lk.En.drain a.toNat (e k)).1
  generalize (Lk.En.drain a.toNat (e k)).1 = sent at *
  generalize (Lk.En.drain a.toNat (e k)).2 = e' at *
  have HX := hide hJd
  clear hJ hJ0 hJd hBx hbW hftw hdm hsm hS
  go_enter Tryz.func13, Tryz.ntmps13
  go_wp2_with fail
  go_cut [17] (fun s17 wc => s17 = .string (bs sent) ∧ Hid (PPost (W.drewN 1) (eb k) (d k) e' wc))
  case first =>
    go_region_with (first | (go_at_call 14; refine (unhide HC).mono ?_; rintro r w1 ⟨rfl, hP⟩))
    all_goals
      go_wp2_with fail
      go_meet
      exact ⟨rfl, hP⟩
  case rest =>
    obtain ⟨rfl, HP⟩ := hcut
    obtain ⟨d', h1, h2, h3⟩ := unhide HP
    have hJ1 := (unhide HX).call hk h1 h2 h3
    have x3 : wc.cell? ⟨sd k, 3, none⟩ = some (.string (bs (pipe k))) := (hJ1.side k hk).cell 3
    have xf := (hJ1.side k hk).free 3
    have xl := (hJ1.side k hk).lt
    have HFIN := hide (hJ1.setPipe hk (pipe k ++ sent))
    clear h1 h2 h3 hJ1 HP HX HC o0 o1 o2 o3 o5 o6 p0 rk sk0
    go_wp2_with fail
    go_ret
    exact ⟨rfl, _, unhide HFIN⟩

end Go.Proofs.YtbkpdapagfjmmaaGreatDoor
