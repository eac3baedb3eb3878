/-
  Walks: a whole script of two readers.
-/
import Derived.Test.YtbkpdapagfjmmaaGreatDoorD7
import Derived.Test.YtbkpdapagfjmmaaGreatDoorD8
import Derived.Test.YtbkpdapagfjmmaaGreatDoorD9
namespace Go.Proofs.YtbkpdapagfjmmaaGreatDoor
open Go.RowKit

/-- A step of a script, as it lies in memory. -/
structure OpR where
  kd : Int
  a : Int
  b : Int
  s : ByteArray
  t : ByteArray
  n : Int
  ha : Option Addr
  hl : Nat
  hc : Nat

def OpR.vals (o : OpR) : List Value := [.int .i64 o.kd, .int .i64 o.a, .int .i64 o.b, .string o.s, .string o.t, .int .i64 o.n, .slice o.ha o.hl o.hc]

/-- The steps of a script lie in a row. -/
def ScriptAt (w : World) (blk off len : Nat) (ops : Nat → OpR) : Prop := blk < w.heap.size ∧ ∀ i, i < len → (ops i).s.size ≤ 2 ^ 39 ∧ ∀ j, j < 7 → w.cell? ⟨blk, off + i * 7 + j, none⟩ = (ops i).vals[j]?

theorem Rig.below {B M gR gS cR cS r0 r1 s0 s1 : Nat} {pv : Value} {w w' : World} (h : Rig B M gR gS cR cS pv r0 r1 s0 s1 w) (hb : Below w.heap.size w w') : Rig B M gR gS cR cS pv r0 r1 s0 s1 w' := by
  have hg : w.grownBy w' none := ⟨hb.os, hb.tape, hb.output, hb.size, fun i hi _ => hb.block i hi⟩
  obtain ⟨tR, a1⟩ := h.rowR
  obtain ⟨tS, a2⟩ := h.rowS
  exact ⟨h.made.grown hg (by simp), ⟨tR, a1.grown hg (by simp)⟩, ⟨tS, a2.grown hg (by simp)⟩, h.p0.grown hg (by simp) (by simp), h.p1.grown hg (by simp) (by simp), h.ner, h.nes, h.hM, h.hR, h.hS, h.h0, h.h1, h.cR2, h.cS2⟩

theorem and_one (b : Int) : bits .and .i64 b 1 = 0 ∨ bits .and .i64 b 1 = 1 := by
  have h : ∀ x : BitVec 64, (x &&& 1#64).toNat = 0 ∨ (x &&& 1#64).toNat = 1 := by
    intro x
    rw [BitVec.toNat_and]
    have : (1#64).toNat = 2 ^ 1 - 1 := rfl
    rw [this, Nat.and_two_pow_sub_one_eq_mod]
    omega
  have e : bits .and .i64 b 1 = IntKind.i64.wrap (((BitVec.ofInt 64 b) &&& 1#64).toNat : Int) := rfl
  rw [e]
  rcases h (BitVec.ofInt 64 b) with h | h <;> rw [h]
  · left; rfl
  · right; rfl

set_option maxHeartbeats 1000000 in
set_option maxRecDepth 100000 in
theorem upTo_some (w : World) (blk off len cap : Nat) (ops : Nat → OpR) (hlen : len ≤ 2 ^ 40) (hS : ScriptAt w blk off len ops) :
    Calls Tryz.prog 10 #[.int .i64 0, .int .i64 1, .slice (some ⟨blk, off, none⟩) len cap, .int .i64 2, .int .i64 3] w fun e w' => e = .returned (.bool true) ∧ Below w.heap.size w w' := by
  go_enter Tryz.func10, Tryz.ntmps10
  go_wp2_with fail
  refine (made_any w).mono ?_
  rintro e w1 ⟨rfl, ⟨vR, vS, rs, ss, hrs, hss, hmk⟩, hb1⟩
  obtain ⟨gR, gS, cR, cS, r0, r1, s0, s1, hrig⟩ := hmk.rig (by omega) hrs hss
  clear hmk hrs hss
  generalize w.heap.size + 1 = M at *
  generalize (Value.slice (some ⟨w.heap.size, 0, none⟩) 2 2) = pv at *
  unfold ptr
  go_wp2_with fail
  go_loopw [13] (fun k wr => ∃ (i r0 r1 s0 s1 : Nat), i ≤ len ∧ k = .int .i64 i ∧ Rig w.heap.size M gR gS cR cS pv r0 r1 s0 s1 wr ∧ Below w.heap.size w wr) (fun k _ => len - (intOf k).toNat)
  case atStart => exact ⟨0, r0, r1, s0, s1, Nat.zero_le _, rfl, hrig, hb1⟩
  case round =>
    clear hrig hb1
    obtain ⟨i, r0, r1, s0, s1, hi, rfl, hrig, hbel⟩ := hrel
    by_cases hlt : i < len
    · have hlt' : (i : Int) < len := by omega
      have hi60 : (i : Int) < 1152921504606846976 := by omega
      obtain ⟨hsz, hcs⟩ := hS.2 i hlt
      have hcell : ∀ j, j < 7 → wr.cell? ⟨blk, off + i * 7 + j, none⟩ = (ops i).vals[j]? := fun j hj => (hbel.cell (p := ⟨blk, off + i * 7 + j, none⟩) hS.1).trans (hcs j hj)
      generalize ops i = o at *
      obtain ⟨kd, a, b, s, t, n, ha, hl, hc⟩ := o
      have c0 := hcell 0 (by omega)
      have c1 := hcell 1 (by omega)
      have c2 := hcell 2 (by omega)
      have c3 := hcell 3 (by omega)
      have c4 := hcell 4 (by omega)
      have c5 := hcell 5 (by omega)
      have c6 := hcell 6 (by omega)
      simp only [OpR.vals, List.getElem?_cons_zero, List.getElem?_cons_succ, Nat.add_zero] at c0 c1 c2 c3 c4 c5 c6
      have hblk : blk < wr.heap.size := Nat.lt_of_lt_of_le hS.1 hbel.size
      clear hcell hcs
      by_cases h2 : kd < 2
      · have hb0 := and_one b
        have H := hide hb0
        clear hb0
        go_wp2_with fail
        go_roundw
        case rel => exact ⟨i + 1, r0, r1, s0, s1, by omega, by go_num, hrig.below ((Below.refl _ _).alloc (Nat.le_refl _) _), hbel.alloc hbel.size _⟩
        case measure => simp [intOf]; omega
      by_cases h3 : 3 < kd
      · go_wp2_with fail
        go_roundw
        case rel => exact ⟨i + 1, r0, r1, s0, s1, by omega, by go_num, hrig.below ((Below.refl _ _).alloc (Nat.le_refl _) _), hbel.alloc hbel.size _⟩
        case measure => simp [intOf]; omega
      have hk : kd = 2 ∨ kd = 3 := by omega
      clear h2 h3
      rcases hk with rfl | rfl
      · have hbw := hbel.alloc hbel.size (.cells #[.int .i64 2, .int .i64 a, .int .i64 b, .string s, .string t, .int .i64 n, .slice ha hl hc] 33)
        have hrg := hrig.below ((Below.refl wr.heap.size wr).alloc (Nat.le_refl _) (.cells #[.int .i64 2, .int .i64 a, .int .i64 b, .string s, .string t, .int .i64 n, .slice ha hl hc] 33))
        have hsB : w.heap.size ≤ (wr.alloc (.cells #[.int .i64 2, .int .i64 a, .int .i64 b, .string s, .string t, .int .i64 n, .slice ha hl hc] 33)).heap.size := hbw.size
        rcases and_one b with hb | hb
        · go_wp2_with fail
          refine (reads_new0 w.heap.size M gR gS cR cS r0 r1 s0 s1 pv a b n s t ha hl hc _ hsB hrg).mono ?_
          rintro e w2 ⟨rfl, ⟨r, q, hrg2⟩, hb2⟩
          go_wp2_with fail
          go_roundw
          case rel => exact ⟨i + 1, r, r1, q, s1, by omega, by go_num, hrg2, hbw.trans hb2⟩
          case measure => simp [intOf]; omega
        · go_wp2_with fail
          refine (reads_new1 w.heap.size M gR gS cR cS r0 r1 s0 s1 pv a b n s t ha hl hc _ hsB hrg).mono ?_
          rintro e w2 ⟨rfl, ⟨r, q, hrg2⟩, hb2⟩
          go_wp2_with fail
          go_roundw
          case rel => exact ⟨i + 1, r0, r, s0, q, by omega, by go_num, hrg2, hbw.trans hb2⟩
          case measure => simp [intOf]; omega
      · have hbw := hbel.alloc hbel.size (.cells #[.int .i64 3, .int .i64 a, .int .i64 b, .string s, .string t, .int .i64 n, .slice ha hl hc] 33)
        have hrg := hrig.below ((Below.refl wr.heap.size wr).alloc (Nat.le_refl _) (.cells #[.int .i64 3, .int .i64 a, .int .i64 b, .string s, .string t, .int .i64 n, .slice ha hl hc] 33))
        have hsB : w.heap.size ≤ (wr.alloc (.cells #[.int .i64 3, .int .i64 a, .int .i64 b, .string s, .string t, .int .i64 n, .slice ha hl hc] 33)).heap.size := hbw.size
        rcases and_one b with hb | hb
        · go_wp2_with fail
          refine (reads_read0 w.heap.size M gR gS cR cS r0 r1 s0 s1 pv a b n s t ha hl hc _ hsB hsz hrg).mono ?_
          rintro e w2 ⟨rfl, hrg2, hb2⟩
          go_wp2_with fail
          go_roundw
          case rel => exact ⟨i + 1, r0, r1, s0, s1, by omega, by go_num, hrg2, hbw.trans hb2⟩
          case measure => simp [intOf]; omega
        · go_wp2_with fail
          refine (reads_read1 w.heap.size M gR gS cR cS r0 r1 s0 s1 pv a b n s t ha hl hc _ hsB hsz hrg).mono ?_
          rintro e w2 ⟨rfl, hrg2, hb2⟩
          go_wp2_with fail
          go_roundw
          case rel => exact ⟨i + 1, r0, r1, s0, s1, by omega, by go_num, hrg2, hbw.trans hb2⟩
          case measure => simp [intOf]; omega
    · have hlt' : ¬ (i : Int) < len := by omega
      go_wp2_with fail
      go_ret
      exact ⟨rfl, hbel⟩

theorem upTo_none (w : World) (ad : Option Addr) (cap : Nat) :
    Calls Tryz.prog 10 #[.int .i64 0, .int .i64 1, .slice ad 0 cap, .int .i64 2, .int .i64 3] w fun e w' => e = .returned (.bool true) ∧ Below w.heap.size w w' := by
  go_enter Tryz.func10, Tryz.ntmps10
  go_wp2_with fail
  refine (made_any w).mono ?_
  rintro e w1 ⟨rfl, _, hb1⟩
  unfold ptr
  go_wp2_with fail
  refine wp_loop_rounds 1 ?_
  rw [rounds_succ]
  go_wp2_with fail
  go_ret
  exact ⟨rfl, hb1⟩

theorem reads_some (w : World) (blk off len cap : Nat) (ops : Nat → OpR) (hlen : len ≤ 2 ^ 40) (hS : ScriptAt w blk off len ops) :
    Calls Tryz.prog 3 #[.slice (some ⟨blk, off, none⟩) len cap] w fun e w' => e = .returned (.bool true) ∧ Below w.heap.size w w' := by
  go_enter Tryz.func3, Tryz.ntmps3
  go_wp2_with fail
  refine (upTo_some w blk off len cap ops hlen hS).mono ?_
  rintro e w1 ⟨rfl, hb1⟩
  go_wp2_with fail
  go_ret
  exact ⟨rfl, hb1⟩

theorem reads_none (w : World) (ad : Option Addr) (cap : Nat) :
    Calls Tryz.prog 3 #[.slice ad 0 cap] w fun e w' => e = .returned (.bool true) ∧ Below w.heap.size w w' := by
  go_enter Tryz.func3, Tryz.ntmps3
  go_wp2_with fail
  refine (upTo_none w ad cap).mono ?_
  rintro e w1 ⟨rfl, hb1⟩
  go_wp2_with fail
  go_ret
  exact ⟨rfl, hb1⟩

end Go.Proofs.YtbkpdapagfjmmaaGreatDoor
