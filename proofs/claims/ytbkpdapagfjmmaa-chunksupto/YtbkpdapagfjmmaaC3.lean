/-
  Walks: Chunks.
-/
import Derived.Test.YtbkpdapagfjmmaaC2
import Derived.BigQuiet
namespace Go.Proofs.Ytbkpdapagfjmmaa
open Go.RowKit


theorem below_drewN {B : Nat} {w w1 : World} (h : Below B w w1) (n : Nat) : Below B w (w1.drewN n) := ⟨h.os, h.tape, h.output, h.size, h.block⟩

namespace Lk
theorem packAll_take (fs : List Fr) (k : Nat) (h : k < fs.length) : packAll (fs.take (k + 1)) = packAll (fs.take k) ++ packed fs[k].k fs[k].st fs[k].d := by
  unfold packAll
  rw [List.take_succ_eq_append_getElem h, List.flatMap_append]
  simp

theorem packAll_le (fs : List Fr) (k : Nat) : (packAll (fs.take k)).length ≤ (packAll fs).length := by
  have e : packAll fs = packAll (fs.take k) ++ packAll (fs.drop k) := by
    unfold packAll
    rw [← List.flatMap_append, List.take_append_drop]
  rw [e, List.length_append]
  omega
end Lk

/-- What the end of Chunks asks of the bytes. -/
structure Tail (b S : ByteArray) (er : Nat) : Prop where
  le : S.size ≤ b.size
  same : b.extract 0 S.size = S
  few : er = 0 → b.size - S.size < 73
  some : er ≠ 0 → 0 < b.size - S.size

theorem tail_of (b : ByteArray) : Tail b ⟨(Lk.packAll (Lk.all b.data.toList).1).toArray⟩ (Lk.all b.data.toList).2.1 := by
  obtain ⟨_, r, hr, h1, h2⟩ := Lk.all_packs b.data.toList
  have hl := congrArg List.length hr
  rw [List.length_append, ← size_list] at hl
  have hS : (⟨(Lk.packAll (Lk.all b.data.toList).1).toArray⟩ : ByteArray).size = (Lk.packAll (Lk.all b.data.toList).1).length := by simp [size_list]
  generalize (Lk.all b.data.toList).2.1 = er at *
  generalize (Lk.all b.data.toList).1 = fs at *
  refine ⟨by omega, ?_, fun h => by have := h1 h; omega, fun h => by have := h2 h; omega⟩
  apply ByteArray.ext
  apply Array.toList_inj.mp
  rw [extract_list, hS, List.drop_zero, Nat.sub_zero]
  rw [hr, List.take_left]

set_option maxHeartbeats 1000000 in
set_option maxRecDepth 100000 in
theorem chunks_any (b : ByteArray) (cv : Value) (w : World) (hb : b.size ≤ 2 ^ 30)
    (HF : Hid (Calls Try.prog 12 #[.string b, cv] w fun e w' =>
      ∃ v, e = .returned (.tuple #[v, .int .i64 ((Lk.all b.data.toList).2.1 : Int)]) ∧ w'.ownsRow w.heap.size 26 3 v (Lk.all b.data.toList).1.length (framesV (Lk.all b.data.toList).1) ∧ Below w.heap.size w w')) :
    Calls Try.prog 5 #[.string b, cv] w fun e w' => e = .returned (.bool true) ∧ Below w.heap.size w w' := by
  have HN := hide (fun w => fed_nil b w hb)
  have HT := hide (tail_of b)
  have hgood := (Lk.all_packs b.data.toList).1
  have hlen := Lk.all_len b.data.toList
  rw [← size_list] at hlen
  generalize (Lk.all b.data.toList).1 = fs at *
  generalize (Lk.all b.data.toList).2.1 = er at *
  have hle := (unhide HT).le
  rw [show (⟨(Lk.packAll fs).toArray⟩ : ByteArray).size = (Lk.packAll fs).length from by simp [size_list]] at hle
  go_enter Try.func5, Try.ntmps5
  go_wp2_with fail
  refine (unhide HF).mono ?_
  rintro e w1 ⟨v1, rfl, ho1, hb1⟩
  clear HF
  go_wp2_with fail
  refine (unhide HN _).mono ?_
  rintro e w2 ⟨v2, rfl, ho2, hb2⟩
  clear HN
  have ho1' := own_below ho1 hb2
  have hb02 := hb1.trans (hb2.mono hb1.size)
  have hne : ((er : Int) != er) = false := by simp
  have hpos : ¬ (er : Int) < 0 := by omega
  have hne2 : ((fs.length : Int) != fs.length) = false := by simp
  clear ho1 hb1 hb2
  rcases owned_frames ho1' with ⟨rfl, rfl⟩ | ⟨g, cap, rfl, _, hg, hcap, hca⟩
  · rcases owned_frames ho2 with ⟨_, rfl⟩ | ⟨g', cap', rfl, _, hg', hcap', hcb⟩
    all_goals
      clear ho1' ho2
      have hT := unhide HT
      rw [show (⟨(Lk.packAll []).toArray⟩ : ByteArray) = ⟨#[]⟩ from rfl] at hT
      have hsub : (0 : Int) ≤ b.size := by omega
      have hex : b.extract 0 0 = ⟨#[]⟩ := hT.same
      have hz : (⟨#[]⟩ : ByteArray).size = 0 := rfl
      have hfew := hT.few
      have hsome := hT.some
      rw [hz] at hfew hsome
      clear hT hz HT
      by_cases her : er = 0
      · subst her
        have hfew' : (b.size : Int) < 73 := by have := hfew rfl; omega
        clear hfew hsome
        by_cases hbe : b = ByteArray.empty
        · subst hbe
          go_wp2_with fail
          refine wp_loop_rounds 1 ?_
          rw [rounds_succ]
          go_wp2_with fail
          go_ret
          exact ⟨rfl, hb02⟩
        · have hbp : 0 < b.size := Nat.pos_of_ne_zero (fun h => hbe (empty_of b h))
          go_wp2_with fail
          refine wp_loop_rounds 1 ?_
          rw [rounds_succ]
          go_wp2_with fail
          go_ret
          exact ⟨rfl, hb02⟩
      · have hen : ((er : Int) != 0) = true := by rw [bne_iff_ne]; omega
        have hbp : 0 < b.size := by have := hsome her; omega
        have hbe : ¬ b = ByteArray.empty := fun h => by rw [h] at hbp; exact absurd hbp (by decide)
        clear hfew hsome
        go_wp2_with fail
        refine wp_loop_rounds 1 ?_
        rw [rounds_succ]
        go_wp2_with fail
        go_ret
        exact ⟨rfl, hb02⟩
  · rcases owned_frames ho2 with ⟨rfl, rfl⟩ | ⟨g', cap', rfl, _, hg', hcap', hcb⟩
    · clear ho1' ho2
      have hT := unhide HT
      rw [show (⟨(Lk.packAll []).toArray⟩ : ByteArray) = ⟨#[]⟩ from rfl] at hT
      have hsub : (0 : Int) ≤ b.size := by omega
      have hex : b.extract 0 0 = ⟨#[]⟩ := hT.same
      have hz : (⟨#[]⟩ : ByteArray).size = 0 := rfl
      have hfew := hT.few
      have hsome := hT.some
      rw [hz] at hfew hsome
      clear hT hz HT
      by_cases her : er = 0
      · subst her
        have hfew' : (b.size : Int) < 73 := by have := hfew rfl; omega
        clear hfew hsome
        by_cases hbe : b = ByteArray.empty
        · subst hbe
          go_wp2_with fail
          refine wp_loop_rounds 1 ?_
          rw [rounds_succ]
          go_wp2_with fail
          go_ret
          exact ⟨rfl, hb02⟩
        · have hbp : 0 < b.size := Nat.pos_of_ne_zero (fun h => hbe (empty_of b h))
          go_wp2_with fail
          refine wp_loop_rounds 1 ?_
          rw [rounds_succ]
          go_wp2_with fail
          go_ret
          exact ⟨rfl, hb02⟩
      · have hen : ((er : Int) != 0) = true := by rw [bne_iff_ne]; omega
        have hbp : 0 < b.size := by have := hsome her; omega
        have hbe : ¬ b = ByteArray.empty := fun h => by rw [h] at hbp; exact absurd hbp (by decide)
        clear hfew hsome
        go_wp2_with fail
        refine wp_loop_rounds 1 ?_
        rw [rounds_succ]
        go_wp2_with fail
        go_ret
        exact ⟨rfl, hb02⟩
    · clear ho1' ho2
      go_wp2_with fail
      go_loopw [9, 10] (fun sv i wr => ∃ k : Nat, i = .int .i64 k ∧ k ≤ fs.length ∧ sv = .string ⟨(Lk.packAll (fs.take k)).toArray⟩ ∧ Below w2.heap.size w2 wr) (fun _ i _ => fs.length - (intOf i).toNat)
      case atStart => exact ⟨0, rfl, Nat.zero_le _, by simp [Lk.packAll], Below.refl _ _⟩
      case round =>
        obtain ⟨k, rfl, hk, rfl, hbr⟩ := hrel
        by_cases hlt : k < fs.length
        · have hlt' : (k : Int) < fs.length := by omega
          obtain ⟨a0, a1, a2⟩ := hca k hlt
          obtain ⟨b0, b1, b2⟩ := hcb k hlt
          have hgd := hgood fs[k] (List.getElem_mem hlt)
          have hpt := Lk.packAll_take fs k hlt
          have hpl := Lk.packAll_le fs (k + 1)
          generalize fs[k] = f at *
          obtain ⟨fk, fst, fd⟩ := f
          dsimp only at a0 a1 a2 b0 b1 b2 hgd hpt
          rw [← hbr.cell hg] at a0 a1 a2
          rw [← hbr.cell hg'] at b0 b1 b2
          have HCA := hide hca
          have HCB := hide hcb
          have he0 := Lk.packErr_good hgd
          have hfd : fd.length ≤ 64 := hgd.len
          have HP := hide (fun w => pack_any fk fst ⟨fd.toArray⟩ w (by rw [size_list]; unfold maxLen; simp; omega))
          simp only [packStr, he0, if_true] at HP
          rw [hpt, List.length_append] at hpl
          have hap : (⟨(Lk.packAll (fs.take k)).toArray⟩ : ByteArray) ++ ⟨(Lk.packed fk fst fd).toArray⟩ = ⟨(Lk.packAll (fs.take (k + 1))).toArray⟩ := by rw [hpt]; apply ByteArray.ext; simp
          have hadd : (⟨(Lk.packAll (fs.take k)).toArray⟩ : ByteArray).size + (⟨(Lk.packed fk fst fd).toArray⟩ : ByteArray).size ≤ 9223372036854775807 := by rw [size_list, size_list]; simp; omega
          have HAP := hide hap
          clear hca hcb hgd hpt hap he0 hgood
          generalize (⟨(Lk.packAll (fs.take k)).toArray⟩ : ByteArray) = S at *
          generalize (⟨(Lk.packed fk fst fd).toArray⟩ : ByteArray) = P at *
          go_wp2_with fail
          refine (unhide HP _).mono ?_
          rintro e w3 ⟨rfl, hb3⟩
          rw [← hb3.cell (Nat.lt_of_lt_of_le hg hbr.size)] at a0 a1 a2
          rw [← hb3.cell (Nat.lt_of_lt_of_le hg' hbr.size)] at b0 b1 b2
          have hbr3 := hbr.trans (hb3.mono hbr.size)
          clear hb3 HP
          go_wp2_with fail
          go_quiet ((go_at_call 8; exact Calls.quiet_of_same (num_any _ _)))
          go_wp2_with fail
          go_roundw
          case rel => exact ⟨k + 1, by go_num, by omega, by rw [unhide HAP], below_drewN hbr3 _⟩
          case measure => simp [intOf]; omega
        · have hke : k = fs.length := by omega
          subst hke
          rw [List.take_length]
          have hlt' : ¬ (fs.length : Int) < fs.length := by omega
          have hT := unhide HT
          generalize (⟨(Lk.packAll fs).toArray⟩ : ByteArray) = S at *
          have hsz : (S.size : Int) ≤ b.size := by have := hT.le; omega
          have hex := hT.same
          have hfew := hT.few
          have hsome := hT.some
          have hbw := hb02.trans (hbr.mono hb02.size)
          clear hT HT hca hcb hgood
          by_cases her : er = 0
          · subst her
            have hfew' : (b.size : Int) - S.size < 73 := by have := hfew rfl; omega
            clear hfew hsome
            go_wp2_with fail
            all_goals (go_ret; exact ⟨rfl, hbw⟩)
          · have hen : ((er : Int) != 0) = true := by rw [bne_iff_ne]; omega
            have hsome' : (0 : Int) < (b.size : Int) - S.size := by have := hsome her; omega
            clear hfew hsome
            go_wp2_with fail
            all_goals (go_ret; exact ⟨rfl, hbw⟩)

end Go.Proofs.Ytbkpdapagfjmmaa
