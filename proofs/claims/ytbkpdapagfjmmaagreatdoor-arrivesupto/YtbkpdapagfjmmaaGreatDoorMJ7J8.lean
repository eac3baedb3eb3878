import Derived.Test.YtbkpdapagfjmmaaGreatDoorMJ2J4
import Derived.Test.YtbkpdapagfjmmaaGreatDoorMFQJ5
import Derived.Test.YtbkpdapagfjmmaaGreatDoorMJ6S3
import Derived.BigRegion
/-
  Walks: the steps of a pair.
-/
set_option linter.unusedVariables false
namespace Go.Proofs.YtbkpdapagfjmmaaGreatDoor
open Go.RowKit

theorem opx_keep {w W wc : World} {eb : Nat} {d : PD} {T : TypeId} {cs : List Value} (hI : Is W w.heap.size T cs) (hO : Only (foot eb d) W wc) (hft : ∀ i, foot eb d i → i < w.heap.size) : Is wc w.heap.size T cs := hI.only hO (fun hf => by have := hft _ hf; omega)
theorem drop1 {S : Nat → Prop} {W wc : World} (h : Only S (W.drewN 1) wc) : Only S W wc := ⟨h.os, h.tape, h.output, h.size, h.block⟩

set_option maxHeartbeats 4000000 in
set_option maxRecDepth 100000 in
theorem step_ping (w0 : World) (P g cap : Nat) (sd eb : Nat → Nat) (e : Nat → Lk.En) (d : Nat → PD) (mv : Nat → Value) (ml : Nat → List Ms) (pipe : Nat → Lk.Bs) (n k : Nat) (a b c : Int) (st tt : ByteArray) (ha : Option Addr) (hl hc : Nat) (rs : Bool) (w : World) (hk : k < 2) (hb : bits .and .i64 b 1 = (k : Int)) (hJ : JP w0 P g cap sd eb e d mv ml pipe w) (hS : JS e pipe ml n) :
    Calls Tryz.prog 13 #[.pointer (some ⟨P, 0, none⟩), .agg #[.int .i64 12, .int .i64 a, .int .i64 b, .string st, .string tt, .int .i64 c, .slice ha hl hc], .bool rs] w fun r w' => r = .returned (.bool true) ∧ ∃ d', JP w0 P g cap sd eb (upd e k ((e k).pingC st.data.toList).2) d' mv ml pipe w' := by
  have hk1 : (k : Int) < 2 := by omega
  have hBx := Is.new w 33 [.int .i64 12, .int .i64 a, .int .i64 b, .string st, .string tt, .int .i64 c, .slice ha hl hc]
  have hbW := (Below.refl w.heap.size w).alloc (Nat.le_refl _) (.cells #[.int .i64 12, .int .i64 a, .int .i64 b, .string st, .string tt, .int .i64 c, .slice ha hl hc] 33)
  have hJ0 := hJ.below hbW
  have hftw : ∀ i, foot (eb k) (d k) i → i < w.heap.size := (hJ.pe k hk).lt
  have hwW : w.heap.size < (w.alloc (.cells #[.int .i64 12, .int .i64 a, .int .i64 b, .string st, .string tt, .int .i64 c, .slice ha hl hc] 33)).heap.size := by simp
  generalize hW : w.alloc (.cells #[.int .i64 12, .int .i64 a, .int .i64 b, .string st, .string tt, .int .i64 c, .slice ha hl hc] 33) = W at *
  have o0 : W.cell? ⟨w.heap.size, 0, none⟩ = some (.int .i64 12) := hBx.cell 0
  have o1 : W.cell? ⟨w.heap.size, 1, none⟩ = some (.int .i64 a) := hBx.cell 1
  have o2 : W.cell? ⟨w.heap.size, 2, none⟩ = some (.int .i64 b) := hBx.cell 2
  have o3 : W.cell? ⟨w.heap.size, 3, none⟩ = some (.string st) := hBx.cell 3
  have o5 : W.cell? ⟨w.heap.size, 5, none⟩ = some (.int .i64 c) := hBx.cell 5
  have o6 : W.cell? ⟨w.heap.size, 6, none⟩ = some (.slice ha hl hc) := hBx.cell 6
  have p0 : W.cell? ⟨P, 0, none⟩ = some (.slice (some ⟨g, 0, none⟩) 2 cap) := hJ0.pr.cell 0
  have pl := hJ0.pr.lt
  have rk : W.cell? ⟨g, k, none⟩ = some (.pointer (some ⟨sd k, 0, none⟩)) := pair_at hJ0.row hk
  have gl : g < W.heap.size := by obtain ⟨t, ht⟩ := hJ0.row; exact ht.lt
  have sk0 : W.cell? ⟨sd k, 0, none⟩ = some (.pointer (some ⟨eb k, 0, none⟩)) := (hJ0.side k hk).cell 0
  have skl := (hJ0.side k hk).lt
  have hcap := hJ0.cap2
  have hJd := hJ0.below (below_dn (Below.refl _ W) 1)
  have HC := hide (ping_p (eb k) (e k) (d k) st (W.drewN 1) (hJd.pe k hk))
  have hor := (hS.ping hk st.data.toList).2
  rw [← size_list] at hor
  generalize ((e k).pingC st.data.toList).1 = cd at *
  generalize ((e k).pingC st.data.toList).2 = e' at *
  have HX := hide (⟨hBx, hJd, hftw, hor⟩ : _ ∧ _ ∧ _ ∧ _)
  clear hJ hJ0 hJd hBx hbW hftw hor hS
  go_enter Tryz.func13, Tryz.ntmps13
  go_wp2_with fail
  go_cut [16] (fun s16 wc => s16 = .int .i64 (cd : Int) ∧ Hid (PPost (W.drewN 1) (eb k) (d k) e' wc))
  case first =>
    go_region_with (first | (go_at_call 33; refine (unhide HC).mono ?_; rintro r w1 ⟨rfl, hP⟩))
    all_goals
      go_wp2_with fail
      go_meet
      exact ⟨rfl, hP⟩
  case rest =>
    obtain ⟨rfl, HP⟩ := hcut
    obtain ⟨hBx, hJd, hftw, hor⟩ := unhide HX
    obtain ⟨d', h1, h2, h3⟩ := unhide HP
    have hB1 := opx_keep hBx (drop1 h3) hftw
    have x3 : wc.cell? ⟨w.heap.size, 3, none⟩ = some (.string st) := hB1.cell 3
    have xl := hB1.lt
    have HFIN := hide (hJd.call hk h1 h2 h3)
    clear hBx hJd hftw h1 h2 h3 hB1 HP HX HC o0 o1 o2 o3 o5 o6 p0 rk sk0
    rcases hor with h0 | h8
    · subst h0
      go_wp2_with (go_at_call 18; refine (num_any _ _).mono ?_; rintro e w4 ⟨rfl, rfl⟩)
      go_ret
      exact ⟨rfl, _, unhide HFIN⟩
    · by_cases h0 : cd = 0
      · subst h0
        clear h8
        go_wp2_with (go_at_call 18; refine (num_any _ _).mono ?_; rintro e w4 ⟨rfl, rfl⟩)
        go_ret
        exact ⟨rfl, _, unhide HFIN⟩
      · have h0' : ((cd : Int) == 0) = false := by simp; omega
        have h8' : ((st.size : Int) != 8) = true := by simp; omega
        clear h0 h8
        go_wp2_with (go_at_call 18; refine (num_any _ _).mono ?_; rintro e w4 ⟨rfl, rfl⟩)
        go_ret
        exact ⟨rfl, _, unhide HFIN⟩

set_option maxHeartbeats 4000000 in
set_option maxRecDepth 100000 in
theorem step_bye (w0 : World) (P g cap : Nat) (sd eb : Nat → Nat) (e : Nat → Lk.En) (d : Nat → PD) (mv : Nat → Value) (ml : Nat → List Ms) (pipe : Nat → Lk.Bs) (n k : Nat) (a b c : Int) (st tt : ByteArray) (ha : Option Addr) (hl hc : Nat) (w : World) (hk : k < 2) (hb : bits .and .i64 b 1 = (k : Int)) (hJ : JP w0 P g cap sd eb e d mv ml pipe w) :
    Calls Tryz.prog 13 #[.pointer (some ⟨P, 0, none⟩), .agg #[.int .i64 13, .int .i64 a, .int .i64 b, .string st, .string tt, .int .i64 c, .slice ha hl hc], .bool true] w fun r w' => r = .returned (.bool true) ∧ ∃ d', JP w0 P g cap sd eb (upd e k (e k).byeC'.2) d' mv ml pipe w' := by
  have hk1 : (k : Int) < 2 := by omega
  have hBx := Is.new w 33 [.int .i64 13, .int .i64 a, .int .i64 b, .string st, .string tt, .int .i64 c, .slice ha hl hc]
  have hbW := (Below.refl w.heap.size w).alloc (Nat.le_refl _) (.cells #[.int .i64 13, .int .i64 a, .int .i64 b, .string st, .string tt, .int .i64 c, .slice ha hl hc] 33)
  have hJ0 := hJ.below hbW
  have hftw : ∀ i, foot (eb k) (d k) i → i < w.heap.size := (hJ.pe k hk).lt
  have hwW : w.heap.size < (w.alloc (.cells #[.int .i64 13, .int .i64 a, .int .i64 b, .string st, .string tt, .int .i64 c, .slice ha hl hc] 33)).heap.size := by simp
  generalize hW : w.alloc (.cells #[.int .i64 13, .int .i64 a, .int .i64 b, .string st, .string tt, .int .i64 c, .slice ha hl hc] 33) = W at *
  have o0 : W.cell? ⟨w.heap.size, 0, none⟩ = some (.int .i64 13) := hBx.cell 0
  have o1 : W.cell? ⟨w.heap.size, 1, none⟩ = some (.int .i64 a) := hBx.cell 1
  have o2 : W.cell? ⟨w.heap.size, 2, none⟩ = some (.int .i64 b) := hBx.cell 2
  have o3 : W.cell? ⟨w.heap.size, 3, none⟩ = some (.string st) := hBx.cell 3
  have o5 : W.cell? ⟨w.heap.size, 5, none⟩ = some (.int .i64 c) := hBx.cell 5
  have o6 : W.cell? ⟨w.heap.size, 6, none⟩ = some (.slice ha hl hc) := hBx.cell 6
  have p0 : W.cell? ⟨P, 0, none⟩ = some (.slice (some ⟨g, 0, none⟩) 2 cap) := hJ0.pr.cell 0
  have pl := hJ0.pr.lt
  have rk : W.cell? ⟨g, k, none⟩ = some (.pointer (some ⟨sd k, 0, none⟩)) := pair_at hJ0.row hk
  have gl : g < W.heap.size := by obtain ⟨t, ht⟩ := hJ0.row; exact ht.lt
  have sk0 : W.cell? ⟨sd k, 0, none⟩ = some (.pointer (some ⟨eb k, 0, none⟩)) := (hJ0.side k hk).cell 0
  have skl := (hJ0.side k hk).lt
  have hcap := hJ0.cap2
  have hJd := hJ0.below (below_dn (Below.refl _ W) 1)
  have HC := hide (bye_p (eb k) (e k) (d k) W (hJ0.pe k hk))
  generalize (e k).byeC'.1 = cd at *
  generalize (e k).byeC'.2 = e' at *
  have HX := hide hJ0
  clear hJ hJ0 hJd hBx hbW hftw
  go_enter Tryz.func13, Tryz.ntmps13
  go_wp2_with fail
  refine (unhide HC).mono ?_
  rintro r w1 ⟨rfl, d', h1, h2, h3⟩
  have HFIN := hide ((unhide HX).call hk h1 h2 h3)
  clear h1 h2 h3 HX HC
  go_wp2_with fail
  go_ret
  exact ⟨rfl, _, unhide HFIN⟩

set_option maxHeartbeats 4000000 in
set_option maxRecDepth 100000 in
theorem step_noBye (w0 : World) (P g cap : Nat) (sd eb : Nat → Nat) (e : Nat → Lk.En) (d : Nat → PD) (mv : Nat → Value) (ml : Nat → List Ms) (pipe : Nat → Lk.Bs) (n k : Nat) (a b c : Int) (st tt : ByteArray) (ha : Option Addr) (hl hc : Nat) (w : World) (hk : k < 2) (hb : bits .and .i64 b 1 = (k : Int)) (hJ : JP w0 P g cap sd eb e d mv ml pipe w) :
    Calls Tryz.prog 13 #[.pointer (some ⟨P, 0, none⟩), .agg #[.int .i64 13, .int .i64 a, .int .i64 b, .string st, .string tt, .int .i64 c, .slice ha hl hc], .bool false] w fun r w' => r = .returned (.bool true) ∧ JP w0 P g cap sd eb e d mv ml pipe w' := by
  have hk1 : (k : Int) < 2 := by omega
  have hBx := Is.new w 33 [.int .i64 13, .int .i64 a, .int .i64 b, .string st, .string tt, .int .i64 c, .slice ha hl hc]
  have hbW := (Below.refl w.heap.size w).alloc (Nat.le_refl _) (.cells #[.int .i64 13, .int .i64 a, .int .i64 b, .string st, .string tt, .int .i64 c, .slice ha hl hc] 33)
  have hJ0 := hJ.below hbW
  have hftw : ∀ i, foot (eb k) (d k) i → i < w.heap.size := (hJ.pe k hk).lt
  have hwW : w.heap.size < (w.alloc (.cells #[.int .i64 13, .int .i64 a, .int .i64 b, .string st, .string tt, .int .i64 c, .slice ha hl hc] 33)).heap.size := by simp
  generalize hW : w.alloc (.cells #[.int .i64 13, .int .i64 a, .int .i64 b, .string st, .string tt, .int .i64 c, .slice ha hl hc] 33) = W at *
  have o0 : W.cell? ⟨w.heap.size, 0, none⟩ = some (.int .i64 13) := hBx.cell 0
  have o1 : W.cell? ⟨w.heap.size, 1, none⟩ = some (.int .i64 a) := hBx.cell 1
  have o2 : W.cell? ⟨w.heap.size, 2, none⟩ = some (.int .i64 b) := hBx.cell 2
  have o3 : W.cell? ⟨w.heap.size, 3, none⟩ = some (.string st) := hBx.cell 3
  have o5 : W.cell? ⟨w.heap.size, 5, none⟩ = some (.int .i64 c) := hBx.cell 5
  have o6 : W.cell? ⟨w.heap.size, 6, none⟩ = some (.slice ha hl hc) := hBx.cell 6
  have p0 : W.cell? ⟨P, 0, none⟩ = some (.slice (some ⟨g, 0, none⟩) 2 cap) := hJ0.pr.cell 0
  have pl := hJ0.pr.lt
  have rk : W.cell? ⟨g, k, none⟩ = some (.pointer (some ⟨sd k, 0, none⟩)) := pair_at hJ0.row hk
  have gl : g < W.heap.size := by obtain ⟨t, ht⟩ := hJ0.row; exact ht.lt
  have sk0 : W.cell? ⟨sd k, 0, none⟩ = some (.pointer (some ⟨eb k, 0, none⟩)) := (hJ0.side k hk).cell 0
  have skl := (hJ0.side k hk).lt
  have hcap := hJ0.cap2
  have hJd := hJ0.below (below_dn (Below.refl _ W) 1)
  have HX := hide hJ0
  clear hJ hJ0 hJd hBx hbW hftw
  go_enter Tryz.func13, Tryz.ntmps13
  go_wp2_with fail
  go_ret
  exact ⟨rfl, unhide HX⟩

set_option maxHeartbeats 4000000 in
set_option maxRecDepth 100000 in
theorem step_noReset (w0 : World) (P g cap : Nat) (sd eb : Nat → Nat) (e : Nat → Lk.En) (d : Nat → PD) (mv : Nat → Value) (ml : Nat → List Ms) (pipe : Nat → Lk.Bs) (n k : Nat) (a b c : Int) (st tt : ByteArray) (ha : Option Addr) (hl hc : Nat) (w : World) (hk : k < 2) (hb : bits .and .i64 b 1 = (k : Int)) (hJ : JP w0 P g cap sd eb e d mv ml pipe w) :
    Calls Tryz.prog 13 #[.pointer (some ⟨P, 0, none⟩), .agg #[.int .i64 11, .int .i64 a, .int .i64 b, .string st, .string tt, .int .i64 c, .slice ha hl hc], .bool false] w fun r w' => r = .returned (.bool true) ∧ JP w0 P g cap sd eb e d mv ml pipe w' := by
  have hk1 : (k : Int) < 2 := by omega
  have hBx := Is.new w 33 [.int .i64 11, .int .i64 a, .int .i64 b, .string st, .string tt, .int .i64 c, .slice ha hl hc]
  have hbW := (Below.refl w.heap.size w).alloc (Nat.le_refl _) (.cells #[.int .i64 11, .int .i64 a, .int .i64 b, .string st, .string tt, .int .i64 c, .slice ha hl hc] 33)
  have hJ0 := hJ.below hbW
  have hftw : ∀ i, foot (eb k) (d k) i → i < w.heap.size := (hJ.pe k hk).lt
  have hwW : w.heap.size < (w.alloc (.cells #[.int .i64 11, .int .i64 a, .int .i64 b, .string st, .string tt, .int .i64 c, .slice ha hl hc] 33)).heap.size := by simp
  generalize hW : w.alloc (.cells #[.int .i64 11, .int .i64 a, .int .i64 b, .string st, .string tt, .int .i64 c, .slice ha hl hc] 33) = W at *
  have o0 : W.cell? ⟨w.heap.size, 0, none⟩ = some (.int .i64 11) := hBx.cell 0
  have o1 : W.cell? ⟨w.heap.size, 1, none⟩ = some (.int .i64 a) := hBx.cell 1
  have o2 : W.cell? ⟨w.heap.size, 2, none⟩ = some (.int .i64 b) := hBx.cell 2
  have o3 : W.cell? ⟨w.heap.size, 3, none⟩ = some (.string st) := hBx.cell 3
  have o5 : W.cell? ⟨w.heap.size, 5, none⟩ = some (.int .i64 c) := hBx.cell 5
  have o6 : W.cell? ⟨w.heap.size, 6, none⟩ = some (.slice ha hl hc) := hBx.cell 6
  have p0 : W.cell? ⟨P, 0, none⟩ = some (.slice (some ⟨g, 0, none⟩) 2 cap) := hJ0.pr.cell 0
  have pl := hJ0.pr.lt
  have rk : W.cell? ⟨g, k, none⟩ = some (.pointer (some ⟨sd k, 0, none⟩)) := pair_at hJ0.row hk
  have gl : g < W.heap.size := by obtain ⟨t, ht⟩ := hJ0.row; exact ht.lt
  have sk0 : W.cell? ⟨sd k, 0, none⟩ = some (.pointer (some ⟨eb k, 0, none⟩)) := (hJ0.side k hk).cell 0
  have skl := (hJ0.side k hk).lt
  have hcap := hJ0.cap2
  have hJd := hJ0.below (below_dn (Below.refl _ W) 1)
  have HX := hide hJ0
  clear hJ hJ0 hJd hBx hbW hftw
  go_enter Tryz.func13, Tryz.ntmps13
  go_wp2_with fail
  go_ret
  exact ⟨rfl, unhide HX⟩

set_option maxHeartbeats 4000000 in
set_option maxRecDepth 100000 in
theorem step_drain (w0 : World) (P g cap : Nat) (sd eb : Nat → Nat) (e : Nat → Lk.En) (d : Nat → PD) (mv : Nat → Value) (ml : Nat → List Ms) (pipe : Nat → Lk.Bs) (n k : Nat) (a b c : Int) (st tt : ByteArray) (ha : Option Addr) (hl hc : Nat) (rs : Bool) (w : World) (hk : k < 2) (hb : bits .and .i64 b 1 = (k : Int)) (hJ : JP w0 P g cap sd eb e d mv ml pipe w) (ha64 : a ≤ 9223372036854775807) (hS : JS e pipe ml n) (hn : n ≤ 2 ^ 21) :
    Calls Tryz.prog 13 #[.pointer (some ⟨P, 0, none⟩), .agg #[.int .i64 14, .int .i64 a, .int .i64 b, .string st, .string tt, .int .i64 c, .slice ha hl hc], .bool rs] w fun r w' => r = .returned (.bool true) ∧ ∃ d', JP w0 P g cap sd eb (upd e k (Lk.En.drain a.toNat (e k)).2) d' mv ml (upd pipe k (pipe k ++ (Lk.En.drain a.toNat (e k)).1)) w' := by
  have hk1 : (k : Int) < 2 := by omega
  have hBx := Is.new w 33 [.int .i64 14, .int .i64 a, .int .i64 b, .string st, .string tt, .int .i64 c, .slice ha hl hc]
  have hbW := (Below.refl w.heap.size w).alloc (Nat.le_refl _) (.cells #[.int .i64 14, .int .i64 a, .int .i64 b, .string st, .string tt, .int .i64 c, .slice ha hl hc] 33)
  have hJ0 := hJ.below hbW
  have hftw : ∀ i, foot (eb k) (d k) i → i < w.heap.size := (hJ.pe k hk).lt
  have hwW : w.heap.size < (w.alloc (.cells #[.int .i64 14, .int .i64 a, .int .i64 b, .string st, .string tt, .int .i64 c, .slice ha hl hc] 33)).heap.size := by simp
  generalize hW : w.alloc (.cells #[.int .i64 14, .int .i64 a, .int .i64 b, .string st, .string tt, .int .i64 c, .slice ha hl hc] 33) = W at *
  have o0 : W.cell? ⟨w.heap.size, 0, none⟩ = some (.int .i64 14) := hBx.cell 0
  have o1 : W.cell? ⟨w.heap.size, 1, none⟩ = some (.int .i64 a) := hBx.cell 1
  have o2 : W.cell? ⟨w.heap.size, 2, none⟩ = some (.int .i64 b) := hBx.cell 2
  have o3 : W.cell? ⟨w.heap.size, 3, none⟩ = some (.string st) := hBx.cell 3
  have o5 : W.cell? ⟨w.heap.size, 5, none⟩ = some (.int .i64 c) := hBx.cell 5
  have o6 : W.cell? ⟨w.heap.size, 6, none⟩ = some (.slice ha hl hc) := hBx.cell 6
  have p0 : W.cell? ⟨P, 0, none⟩ = some (.slice (some ⟨g, 0, none⟩) 2 cap) := hJ0.pr.cell 0
  have pl := hJ0.pr.lt
  have rk : W.cell? ⟨g, k, none⟩ = some (.pointer (some ⟨sd k, 0, none⟩)) := pair_at hJ0.row hk
  have gl : g < W.heap.size := by obtain ⟨t, ht⟩ := hJ0.row; exact ht.lt
  have sk0 : W.cell? ⟨sd k, 0, none⟩ = some (.pointer (some ⟨eb k, 0, none⟩)) := (hJ0.side k hk).cell 0
  have skl := (hJ0.side k hk).lt
  have hcap := hJ0.cap2
  have hJd := hJ0.below (below_dn (Below.refl _ W) 1)
  have hdm := Lk.drain_mass a.toNat (hS.wf hk).1
  have hsm := hS.small hn hk
  have HC := hide (drain_any (eb k) (e k) (d k) a (W.drewN 1) (hJd.pe k hk) ha64 (by omega))
  have hsum : ¬ (bs (pipe k)).size + (bs (Lk.En.drain a.toNat (e k)).1).size > 9223372036854775807 := by
    rw [bs_size, bs_size]
    omega
  have hcat := bs_cat (pipe k) (Lk.En.drain a.toNat (e k)).1
  generalize (Lk.En.drain a.toNat (e k)).1 = sent at *
  generalize (Lk.En.drain a.toNat (e k)).2 = e' at *
  have HX := hide hJd
  clear hJ hJ0 hJd hBx hbW hftw hdm hsm hS
  go_enter Tryz.func13, Tryz.ntmps13
  go_wp2_with fail
  go_cut [17] (fun s17 wc => s17 = .string (bs sent) ∧ Hid (PPost (W.drewN 1) (eb k) (d k) e' wc))
  case first =>
    go_region_with (first | (go_at_call 14; refine (unhide HC).mono ?_; rintro r w1 ⟨rfl, hP⟩))
    all_goals
      go_wp2_with fail
      go_meet
      exact ⟨rfl, hP⟩
  case rest =>
    obtain ⟨rfl, HP⟩ := hcut
    obtain ⟨d', h1, h2, h3⟩ := unhide HP
    have hJ1 := (unhide HX).call hk h1 h2 h3
    have x3 : wc.cell? ⟨sd k, 3, none⟩ = some (.string (bs (pipe k))) := (hJ1.side k hk).cell 3
    have xf := (hJ1.side k hk).free 3
    have xl := (hJ1.side k hk).lt
    have HFIN := hide (hJ1.setPipe hk (pipe k ++ sent))
    clear h1 h2 h3 hJ1 HP HX HC o0 o1 o2 o3 o5 o6 p0 rk sk0
    go_wp2_with fail
    go_ret
    exact ⟨rfl, _, unhide HFIN⟩

end Go.Proofs.YtbkpdapagfjmmaaGreatDoor

/-
  Walks: the steps of a pair: a message is submitted.
-/
set_option linter.unusedVariables false
namespace Go.Proofs.YtbkpdapagfjmmaaGreatDoor
open Go.RowKit

theorem info_ms2 : (Tryz.prog.info? 44).map (fun i => (i.zero, i.size, i.bytes)) = some (some (.agg #[.slice none 0 0, .string ⟨#[]⟩, .bool false, .bool false, .bool false, .int .i64 0]), 6, 56) := by kernel_rfl
/-- What becomes of the messages of a side that submits. -/
def SubR (R : Nat × Nat × Nat) (ml ml' : Nat → List Ms) (k : Nat) (l : List Lk.Hd) (body : Lk.Bs) : Prop := (R.2.1 ≠ 0 ∧ ml' = ml) ∨ (R.2.1 = 0 ∧ ∃ hv, ml' = upd ml k (ml k ++ [⟨hv, l, body, false, false, false, 0⟩]))

set_option maxHeartbeats 4000000 in
set_option maxRecDepth 100000 in
theorem step_submit (w0 : World) (P g cap : Nat) (sd eb : Nat → Nat) (e : Nat → Lk.En) (d : Nat → PD) (mv : Nat → Value) (ml : Nat → List Ms) (pipe : Nat → Lk.Bs) (n k : Nat) (a b c : Int) (st tt : ByteArray) (ha : Option Addr) (hl hc : Nat) (rs : Bool) (w : World) (hk : k < 2) (hb : bits .and .i64 b 1 = (k : Int)) (hJ : JP w0 P g cap sd eb e d mv ml pipe w) (l : List ByteArray) (hl40 : l.length ≤ 2 ^ 43) (hSt : Strs w (.slice ha hl hc) l) (hS : JS e pipe ml n) :
    Calls Tryz.prog 13 #[.pointer (some ⟨P, 0, none⟩), .agg #[.int .i64 9, .int .i64 a, .int .i64 b, .string st, .string tt, .int .i64 c, .slice ha hl hc], .bool rs] w fun r w' => r = .returned (.bool true) ∧ ∃ d' mv' ml', JP w0 P g cap sd eb (upd e k ((e k).submitC (pairs l) st.data.toList).2) d' mv' ml' pipe w' ∧ JS (upd e k ((e k).submitC (pairs l) st.data.toList).2) pipe ml' (n + 1) ∧ SubR ((e k).submitC (pairs l) st.data.toList).1 ml ml' k (pairs l) st.data.toList := by
  have hk1 : (k : Int) < 2 := by omega
  have hBx := Is.new w 33 [.int .i64 9, .int .i64 a, .int .i64 b, .string st, .string tt, .int .i64 c, .slice ha hl hc]
  have hbW := (Below.refl w.heap.size w).alloc (Nat.le_refl _) (.cells #[.int .i64 9, .int .i64 a, .int .i64 b, .string st, .string tt, .int .i64 c, .slice ha hl hc] 33)
  have hJ0 := hJ.below hbW
  have hftw : ∀ i, foot (eb k) (d k) i → i < w.heap.size := (hJ.pe k hk).lt
  have hwW : w.heap.size < (w.alloc (.cells #[.int .i64 9, .int .i64 a, .int .i64 b, .string st, .string tt, .int .i64 c, .slice ha hl hc] 33)).heap.size := by simp
  generalize hW : w.alloc (.cells #[.int .i64 9, .int .i64 a, .int .i64 b, .string st, .string tt, .int .i64 c, .slice ha hl hc] 33) = W at *
  have o0 : W.cell? ⟨w.heap.size, 0, none⟩ = some (.int .i64 9) := hBx.cell 0
  have o1 : W.cell? ⟨w.heap.size, 1, none⟩ = some (.int .i64 a) := hBx.cell 1
  have o2 : W.cell? ⟨w.heap.size, 2, none⟩ = some (.int .i64 b) := hBx.cell 2
  have o3 : W.cell? ⟨w.heap.size, 3, none⟩ = some (.string st) := hBx.cell 3
  have o5 : W.cell? ⟨w.heap.size, 5, none⟩ = some (.int .i64 c) := hBx.cell 5
  have o6 : W.cell? ⟨w.heap.size, 6, none⟩ = some (.slice ha hl hc) := hBx.cell 6
  have p0 : W.cell? ⟨P, 0, none⟩ = some (.slice (some ⟨g, 0, none⟩) 2 cap) := hJ0.pr.cell 0
  have pl := hJ0.pr.lt
  have rk : W.cell? ⟨g, k, none⟩ = some (.pointer (some ⟨sd k, 0, none⟩)) := pair_at hJ0.row hk
  have gl : g < W.heap.size := by obtain ⟨t, ht⟩ := hJ0.row; exact ht.lt
  have sk0 : W.cell? ⟨sd k, 0, none⟩ = some (.pointer (some ⟨eb k, 0, none⟩)) := (hJ0.side k hk).cell 0
  have skl := (hJ0.side k hk).lt
  have hcap := hJ0.cap2
  have hJd := hJ0.below (below_dn (Below.refl _ W) 1)
  have hst := hS.submit hk (pairs l) st.data.toList
  have HCC := hide (fun (w1 : World) (lv : Value) (hpe : PEnd (w1.drewN 1) (eb k) (e k) (d k)) (hfx : Fx (w1.drewN 1)) (hlo : (w1.drewN 1).ownsRow W.heap.size 112 2 lv (pairs l).length (hdsV (pairs l))) => submit_p (eb k) W.heap.size (e k) (d k) (pairs l) lv st (w1.drewN 1) hpe hfx hlo)
  generalize hR : (e k).submitC (pairs l) st.data.toList = R at *
  obtain ⟨⟨r1, r2, r3⟩, e'⟩ := R
  simp only at hst HCC
  clear hR
  have hlen := hS.len (q := k) (by omega)
  obtain ⟨inf, hi, hz0, hz1, hz2⟩ := info_parts info_ms2
  have hw0W := hJ0.bel.size
  have HOT := hide (fun j (hj : j < 2) => (hJ.pe j hj).lt)
  have HH := hide (heads_any (.slice ha hl hc) l W hl40 (hSt.below hbW (Nat.le_refl _)))
  have HX := hide (⟨hBx, hJ0, hftw, hst⟩ : _ ∧ _ ∧ _ ∧ _)
  have hsbs : bs st.data.toList = st := by unfold bs; rfl
  clear hJ hJ0 hJd hBx hbW hftw hst hS hSt
  go_enter Tryz.func13, Tryz.ntmps13
  go_wp2_with fail
  refine (unhide HH).mono ?_
  rintro r w1 ⟨lv, rfl, hlo, hb1⟩
  obtain ⟨hBx, hJ0, hftw, hst⟩ := unhide HX
  have hB1 := hBx.below hb1 hBx.lt
  have hJ1 := hJ0.below hb1
  have hJ2 := hJ1.below (below_dn (Below.refl _ w1) 1)
  obtain ⟨la, lc, hlv⟩ := own_any hlo
  subst hlv
  have HC := hide (unhide HCC w1 _ (hJ2.pe k hk) hJ2.fx hlo)
  have x3 : w1.cell? ⟨w.heap.size, 3, none⟩ = some (.string st) := hB1.cell 3
  have y0 : w1.cell? ⟨sd k, 0, none⟩ = some (.pointer (some ⟨eb k, 0, none⟩)) := (hJ1.side k hk).cell 0
  have xl := hB1.lt
  have yl := (hJ1.side k hk).lt
  have hw1 := hb1.size
  have hst' := hst (.slice la (pairs l).length lc)
  have HX2 := hide (⟨hB1, hJ2, hlo, hst', hftw, hw1⟩ : _ ∧ _ ∧ _ ∧ _ ∧ _ ∧ _)
  clear hBx hJ0 hst hst' hB1 hJ1 hJ2 hlo hb1 HX HH o0 o1 o2 o3 o5 o6 p0 rk sk0 pl gl skl hftw HCC
  go_wp2_with fail
  go_cut [10, 11] (fun s10 s11 wc => s10 = .int .i64 (r1 : Int) ∧ s11 = .int .i64 (r2 : Int) ∧ Hid (PPost (w1.drewN 1) (eb k) (d k) e' wc))
  case first =>
    go_region_with (first | (go_at_call 19; refine (unhide HC).mono ?_; rintro r w2 ⟨rfl, hP⟩))
    all_goals
      go_wp2_with fail
      go_meet
      exact ⟨rfl, rfl, hP⟩
  case rest =>
    obtain ⟨rfl, rfl, HP⟩ := hcut
    obtain ⟨hB1, hJ2, hlo, hst, hftw, hw1⟩ := unhide HX2
    obtain ⟨d', h1, h2, h3⟩ := unhide HP
    have hB2 := opx_keep hB1 (drop1 h3) hftw
    have hJ3 := hJ2.call hk h1 h2 h3
    have hlo3 := own_only hlo (drop1 h3) (fun i hi hf => by have h5 := (hlo.lt i hi).1; have h6 := hftw i hf; omega)
    by_cases h0 : r2 = 0
    · subst h0
      rcases hst with ⟨h, _⟩ | ⟨hr, hJS⟩
      · exact absurd rfl h
      have hr1 : r1 = 2 * (ml k).length + 1 + k := (Prod.mk.inj hr).1
      have hmq := hJ3.ms k (by omega)
      obtain ⟨qa, qc, hq⟩ := own_any hmq
      have z1 : wc.cell? ⟨sd k, 1, none⟩ = some (mv k) := (hJ3.side k hk).cell 1
      have z3 : wc.cell? ⟨w.heap.size, 3, none⟩ = some (.string st) := hB2.cell 3
      have zl := hB2.lt
      have zsl := (hJ3.side k hk).lt
      rw [hq] at hmq z1
      have hwc : w0.heap.size ≤ wc.heap.size := hJ3.bel.size
      have hret : ((r1 : Int) == 2 * (((ml k).length : Int) + 1) - 1 + (k : Int)) = true := by rw [hr1]; simp; omega
      have HY := hide (⟨hJ3, hlo3, hq, hJS, h2⟩ : _ ∧ _ ∧ _ ∧ _ ∧ _)
      have HMQ := hide hmq
      have HSD := hide (hJ3.side k hk)
      have HFT := hide (⟨hftw, hlo, hw0W⟩ : _ ∧ _ ∧ _)
      clear hB1 hJ2 hlo hftw h1 h2 h3 hB2 hJ3 hlo3 hq hJS hmq hr hr1 HP HX2 HC x3 y0 xl yl
      go_wp2_with (go_at_call 18; refine (num_any _ _).mono ?_; rintro e w4 ⟨rfl, rfl⟩)
      go_region_law (first
        | (refine step_append_lies _ rfl _ _ 35 rfl w0.heap.size 44 inf _ 6 56 Tryz.underlying35 hi hz0 hz1 hz2 rfl (Nat.succ_pos 5) (.slice qa (ml k).length qc) (ml k).length (mssV (ml k)) rfl ((unhide HMQ).alloc _) ⟨w4.heap.size, 0, none⟩ 1 1 [.slice la (pairs l).length lc, .string st, .bool false, .bool false, .bool false, .int .i64 0] rfl rfl ?_ ?_ ?_ ?_ ?_ ?_ (w4.heap.size + 1) ?_ ?_
           exact cells_news w4 _ 44
           simp [Value.oneCell']
           omega
           (unfold maxLen; omega)
           omega
           (simp <;> omega)
           simp
           intro g1 cap1 w6 ho6 hg6 hor6 hlt6
           have hO6 := (((unhide HSD).alloc (.cells #[.slice la (pairs l).length lc, .string st, .bool false, .bool false, .bool false, .int .i64 0] 44)).drew).grown hg6 (own_ne (unhide HMQ) (unhide HSD) (Nat.ne_of_beq_eq_false rfl))
           have k1 := hO6.cell 1
           have k1f := hO6.free 1
           have k1l := hO6.lt
           simp only [List.getElem?_cons_zero, List.getElem?_cons_succ] at k1))
      all_goals
        obtain ⟨hJ3, hlo3, hq, hJS, h2⟩ := unhide HY
        have hO7 : Only (fun i => (mv k).ownBlock = some i) w4 w6 := by
          rw [hq]
          exact (((Only.refl _ w4).alloc _).drew).grown hg6 (fun i hi _ => hi)
        have hfin := hJ3.push (q := k) (k := k) (c := 1) (m := ⟨.slice la (pairs l).length lc, pairs l, st.data.toList, false, false, false, 0⟩) hk (.inl ⟨rfl, rfl⟩) (v' := .slice (some ⟨g1, 0, none⟩) ((ml k).length + 1) cap1) (by have := ho6; simp only [msV, hsbs]; exact this) hO7 (fun i hi => by
          have hx' : g1 = i := by simpa [Value.ownBlock] using hi
          subst hx'
          rw [hq]
          rcases hor6 with h | h
          · exact .inl h
          · exact .inr (by first | omega | (simp at h; omega))) (own_only (own_base (unhide HFT).2.2 hlo3) hO7 (fun i hi hx => by
          have hne := own_own_ne hlo3 (by have := hJ3.ms k (by omega); exact this) (Nat.ne_of_beq_eq_false rfl)
          rcases hne with h | h
          · rw [h] at hi; cases hi
          · exact h (hi.trans hx.symm))) (fun j hj i hi hf => by
          obtain ⟨hftw, hlo, _⟩ := unhide HFT
          have h5 := (hlo.lt i hi).1
          have h6 := (hlo.lt i hi).2
          by_cases hjk : j = k
          · subst hjk
            rw [upd_same] at hf
            rcases h2 i hf with h | h
            · have := hftw i h; omega
            · simp at h; omega
          · rw [upd_other _ _ hjk] at hf
            have := unhide HOT j hj i hf
            omega)
        have HFIN := hide hfin
        clear hJ3 hlo3 hq h2 hO7 hfin ho6 hg6 hor6
        go_wp2_with fail
        go_ret
        exact ⟨rfl, _, _, _, unhide HFIN, hJS, Or.inr ⟨rfl, _, rfl⟩⟩
    · have h0' : ((r2 : Int) == 0) = false := by simp; omega
      rcases hst with ⟨_, hJS⟩ | ⟨hr, _⟩
      · have HFIN := hide (⟨hJ3, hJS⟩ : _ ∧ _)
        clear hB1 hJ2 hlo hftw h1 h2 h3 hB2 hJ3 hlo3 hJS HP HX2 HC x3 y0 xl yl
        go_wp2_with (go_at_call 18; refine (num_any _ _).mono ?_; rintro e w4 ⟨rfl, rfl⟩)
        go_ret
        exact ⟨rfl, _, _, _, (unhide HFIN).1, (unhide HFIN).2, Or.inl ⟨h0, rfl⟩⟩
      · exact absurd (Prod.mk.inj (Prod.mk.inj hr).2).1 h0

end Go.Proofs.YtbkpdapagfjmmaaGreatDoor
