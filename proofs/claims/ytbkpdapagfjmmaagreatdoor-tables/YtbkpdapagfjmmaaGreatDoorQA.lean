/-
  Walks: a whole script of two tables.
-/
import Derived.Test.YtbkpdapagfjmmaaGreatDoorQ6
import Derived.Test.YtbkpdapagfjmmaaGreatDoorQ7
import Derived.Test.YtbkpdapagfjmmaaGreatDoorQ9
namespace Go.Proofs.YtbkpdapagfjmmaaGreatDoor
open Go.RowKit

/-- A step of a script, as it lies in memory. -/
structure OpH where
  kd : Int
  a : Int
  b : Int
  s : ByteArray
  t : ByteArray
  n : Int
  ha : Option Addr
  hl : Nat
  hc : Nat
  h : List ByteArray

def OpH.vals (o : OpH) : List Value := [.int .i64 o.kd, .int .i64 o.a, .int .i64 o.b, .string o.s, .string o.t, .int .i64 o.n, .slice o.ha o.hl o.hc]

/-- The steps of a script lie in a row. -/
def ScriptH (w : World) (blk off len : Nat) (ops : Nat → OpH) : Prop := blk < w.heap.size ∧ ∀ i, i < len → (ops i).s.size ≤ 2 ^ 47 ∧ (ops i).h.length ≤ 2 ^ 43 ∧ Strs w (.slice (ops i).ha (ops i).hl (ops i).hc) (ops i).h ∧ ∀ j, j < 7 → w.cell? ⟨blk, off + i * 7 + j, none⟩ = (ops i).vals[j]?

theorem and_one4 (b : Int) : ∃ k : Nat, k < 2 ∧ bits .and .i64 b 1 = (k : Int) := by
  have h : ∀ x : BitVec 64, (x &&& 1#64).toNat = 0 ∨ (x &&& 1#64).toNat = 1 := by
    intro x
    rw [BitVec.toNat_and]
    have : (1#64).toNat = 2 ^ 1 - 1 := rfl
    rw [this, Nat.and_two_pow_sub_one_eq_mod]
    omega
  have e : bits .and .i64 b 1 = IntKind.i64.wrap (((BitVec.ofInt 64 b) &&& 1#64).toNat : Int) := rfl
  rw [e]
  rcases h (BitVec.ofInt 64 b) with h | h <;> rw [h]
  · exact ⟨0, by omega, rfl⟩
  · exact ⟨1, by omega, rfl⟩

theorem tables_any (b0 M gT gU cT cU : Nat) (vR vS pv : Value) (t u B : Nat → Nat) (L : Nat → List Lk.Hd) (k : Nat) (kd a b n : Int) (st tt : ByteArray) (ha : Option Addr) (hl hc : Nat) (l : List ByteArray) (w : World) (hb0 : b0 ≤ w.heap.size) (hk : k < 2) (h4 : 4 ≤ kd) (h7 : kd ≤ 7) (hst : st.size ≤ 2 ^ 47) (hl40 : l.length ≤ 2 ^ 43)
    (hS : Strs w (.slice ha hl hc) l) (hSX : ∀ (x : Addr) (n c : Nat), Value.slice ha hl hc = .slice (some x) n c → n ≠ 0 → x.block < b0) (hR : Rigs b0 M gT gU cT cU vR vS pv t u B L L w) :
    Calls Tryz.prog 29 #[.pointer (some ⟨M, 0, none⟩), .agg #[.int .i64 kd, .int .i64 a, .int .i64 b, .string st, .string tt, .int .i64 n, .slice ha hl hc], .int .i64 k] w (TPost b0 M gT gU cT cU vR vS pv w) := by
  have hkd : kd = 4 ∨ kd = 5 ∨ kd = 6 ∨ kd = 7 := by omega
  rcases hkd with rfl | rfl | rfl | rfl
  · by_cases hbad : a < 0 ∨ 200 < a
    · exact tables_newBad b0 M gT gU cT cU vR vS pv t u B L k a b n st tt ha hl hc w hb0 hk hbad hR
    · obtain ⟨A, rfl⟩ : ∃ A : Nat, a = A := ⟨a.toNat, by omega⟩
      exact tables_newOk b0 M gT gU cT cU vR vS pv t u B L k A b n st tt ha hl hc w hb0 hk (by omega) hR
  · exact tables_squeeze b0 M gT gU cT cU vR vS pv t u B L k a b n st tt ha hl hc w hb0 hk l hl40 hS hSX hR
  · exact tables_expand b0 M gT gU cT cU vR vS pv t u B L k a b n st tt ha hl hc w hb0 hk (by omega) hR
  · exact tables_carry b0 M gT gU cT cU vR vS pv t u B L k a b n st tt ha hl hc w hb0 hk l hl40 hS hSX hR

set_option maxHeartbeats 2000000 in
set_option maxRecDepth 100000 in
theorem upTo4_some (bd : Nat) (hbd : bd ≤ 200) (w : World) (blk off len cap : Nat) (ops : Nat → OpH) (hlen : len ≤ 2 ^ 47) (hfx : Fx w) (hS : ScriptH w blk off len ops) :
    Calls Tryz.prog 10 #[.int .i64 bd, .int .i64 1, .slice (some ⟨blk, off, none⟩) len cap, .int .i64 4, .int .i64 7] w fun e w' => e = .returned (.bool true) ∧ Below w.heap.size w w' := by
  have h0 := hfx.1
  have HFX := hide hfx
  clear hfx
  go_enter Tryz.func10, Tryz.ntmps10
  go_wp2_with fail
  refine (made4 bd hbd w).mono ?_
  rintro e w1 ⟨rfl, ⟨vR, vS, vT, vU, rs, ss, ts, us, hts, hus, hmk⟩, hb1⟩
  obtain ⟨gT, gU, cT, cU, t, u, hrig⟩ := hmk.rigs h0 (by omega) hts hus ((unhide HFX).below hb1 h0)
  clear hmk hts hus
  generalize w.heap.size + 1 = M at *
  generalize (Value.slice (some ⟨w.heap.size, 0, none⟩) 2 2) = pv at *
  unfold ptr
  have HR0 := hide hrig
  clear hrig
  go_wp2_with fail
  go_loopw [13] (fun k wr => ∃ (i : Nat) (t u B : Nat → Nat) (L : Nat → List Lk.Hd), i ≤ len ∧ k = .int .i64 i ∧ Hid (Rigs w.heap.size M gT gU cT cU vR vS pv t u B L L wr) ∧ Below w.heap.size w wr) (fun k _ => len - (intOf k).toNat)
  case atStart => exact ⟨0, t, u, _, _, Nat.zero_le _, rfl, HR0, hb1⟩
  case round =>
    clear HR0 hb1
    obtain ⟨i, t, u, B, L, hi, rfl, HR, hbel⟩ := hrel
    by_cases hlt : i < len
    · have hlt' : (i : Int) < len := by omega
      have hi60 : (i : Int) < 1152921504606846976 := by omega
      obtain ⟨hsz, hh40, hstr, hcs⟩ := hS.2 i hlt
      have hsx := hstr.lt
      have hcell : ∀ j, j < 7 → wr.cell? ⟨blk, off + i * 7 + j, none⟩ = (ops i).vals[j]? := fun j hj => (hbel.cell (p := ⟨blk, off + i * 7 + j, none⟩) hS.1).trans (hcs j hj)
      generalize ops i = o at *
      obtain ⟨kd, a, b, s, tt, n, ha, hl, hc, l⟩ := o
      have c0 := hcell 0 (by omega)
      have c1 := hcell 1 (by omega)
      have c2 := hcell 2 (by omega)
      have c3 := hcell 3 (by omega)
      have c4 := hcell 4 (by omega)
      have c5 := hcell 5 (by omega)
      have c6 := hcell 6 (by omega)
      simp only [OpH.vals, List.getElem?_cons_zero, List.getElem?_cons_succ, Nat.add_zero] at c0 c1 c2 c3 c4 c5 c6
      have hblk : blk < wr.heap.size := Nat.lt_of_lt_of_le hS.1 hbel.size
      have HST := hide (⟨hsz, hh40, hstr, hsx⟩ : _ ∧ _ ∧ _ ∧ _)
      simp only at HST
      clear hcell hcs hsz hh40 hstr hsx
      have hbw := hbel.alloc hbel.size (.cells #[.int .i64 kd, .int .i64 a, .int .i64 b, .string s, .string tt, .int .i64 n, .slice ha hl hc] 33)
      have HRG := hide ((unhide HR).below ((Below.refl wr.heap.size wr).alloc (Nat.le_refl _) (.cells #[.int .i64 kd, .int .i64 a, .int .i64 b, .string s, .string tt, .int .i64 n, .slice ha hl hc] 33)))
      by_cases h2 : kd < 4
      · go_wp2_with fail
        go_roundw
        case rel => exact ⟨i + 1, t, u, B, L, by omega, by go_num, HRG, hbw⟩
        case measure => simp [intOf]; omega
      by_cases h3 : 7 < kd
      · go_wp2_with fail
        go_roundw
        case rel => exact ⟨i + 1, t, u, B, L, by omega, by go_num, HRG, hbw⟩
        case measure => simp [intOf]; omega
      have h4 : 4 ≤ kd := by omega
      have h7 : kd ≤ 7 := by omega
      have n1 : (kd == 1) = false := by rw [beq_eq_false_iff_ne]; omega
      have n2 : (kd == 2) = false := by rw [beq_eq_false_iff_ne]; omega
      have n3 : (kd == 3) = false := by rw [beq_eq_false_iff_ne]; omega
      obtain ⟨k, hk, hkb⟩ := and_one4 b
      have hsB : w.heap.size ≤ (wr.alloc (.cells #[.int .i64 kd, .int .i64 a, .int .i64 b, .string s, .string tt, .int .i64 n, .slice ha hl hc] 33)).heap.size := hbw.size
      have HC := hide (tables_any w.heap.size M gT gU cT cU vR vS pv t u B L k kd a b n s tt ha hl hc l _ hsB hk h4 h7 (unhide HST).1 (unhide HST).2.1 ((unhide HST).2.2.1.below hbw (Nat.le_refl _)) (unhide HST).2.2.2 (unhide HRG))
      go_wp2_with fail
      refine (unhide HC).mono ?_
      rintro e w2 ⟨rfl, ⟨t2, u2, B2, L2, hR2⟩, hb2⟩
      have HR2 := hide hR2
      clear hR2
      go_wp2_with fail
      go_roundw
      case rel => exact ⟨i + 1, t2, u2, B2, L2, by omega, by go_num, HR2, hbw.trans hb2⟩
      case measure => simp [intOf]; omega
    · have hlt' : ¬ (i : Int) < len := by omega
      go_wp2_with fail
      go_ret
      exact ⟨rfl, hbel⟩

theorem upTo4_none (bd : Nat) (hbd : bd ≤ 200) (w : World) (ad : Option Addr) (cap : Nat) :
    Calls Tryz.prog 10 #[.int .i64 bd, .int .i64 1, .slice ad 0 cap, .int .i64 4, .int .i64 7] w fun e w' => e = .returned (.bool true) ∧ Below w.heap.size w w' := by
  go_enter Tryz.func10, Tryz.ntmps10
  go_wp2_with fail
  refine (made4 bd hbd w).mono ?_
  rintro e w1 ⟨rfl, _, hb1⟩
  unfold ptr
  go_wp2_with fail
  refine wp_loop_rounds 1 ?_
  rw [rounds_succ]
  go_wp2_with fail
  go_ret
  exact ⟨rfl, hb1⟩

theorem tables_some (c : Int) (w : World) (blk off len cap : Nat) (ops : Nat → OpH) (hlen : len ≤ 2 ^ 47) (hfx : Fx w) (hS : ScriptH w blk off len ops) :
    Calls Tryz.prog 4 #[.int .i64 c, .slice (some ⟨blk, off, none⟩) len cap] w fun e w' => e = .returned (.bool true) ∧ Below w.heap.size w w' := by
  have HC := hide (fun (n : Nat) (hn : n ≤ 200) => upTo4_some n hn w blk off len cap ops hlen hfx hS)
  clear hfx hS
  go_enter Tryz.func4, Tryz.ntmps4
  go_wp2_with fail
  refine (bounded4 c _).mono ?_
  rintro e w0 ⟨⟨n, hn, rfl⟩, rfl⟩
  go_wp2_with fail
  refine (unhide HC n hn).mono ?_
  rintro e w1 ⟨rfl, hb1⟩
  go_wp2_with fail
  go_ret
  exact ⟨rfl, hb1⟩

theorem tables_none (c : Int) (w : World) (ad : Option Addr) (cap : Nat) :
    Calls Tryz.prog 4 #[.int .i64 c, .slice ad 0 cap] w fun e w' => e = .returned (.bool true) ∧ Below w.heap.size w w' := by
  go_enter Tryz.func4, Tryz.ntmps4
  go_wp2_with fail
  refine (bounded4 c _).mono ?_
  rintro e w0 ⟨⟨n, hn, rfl⟩, rfl⟩
  go_wp2_with fail
  refine (upTo4_none n hn _ ad cap).mono ?_
  rintro e w1 ⟨rfl, hb1⟩
  go_wp2_with fail
  go_ret
  exact ⟨rfl, hb1⟩
end Go.Proofs.YtbkpdapagfjmmaaGreatDoor
