import Derived.Test.YtbkpdapagfjmmaaGreatDoorMSpec5W0
import Derived.Test.YtbkpdapagfjmmaaGreatDoorMT1M1
import Derived.Test.YtbkpdapagfjmmaaGreatDoorMW4W7
import Derived.Deep.RegionWith
import Derived.Test.YtbkpdapagfjmmaaGreatDoorV1
import Derived.Test.YtbkpdapagfjmmaaGreatDoorMS1S2
import Derived.Test.YtbkpdapagfjmmaaGreatDoorMN1Spec4
/-
  Walks: the document's blocks: a fault, a number.
-/
namespace Go.Proofs.YtbkpdapagfjmmaaGreatDoor
open Go.RowKit

/-- A block of the document's that is taken apart: it is at p; the place of the fault (-1: none). -/
def RB (w : World) (b : Nat) (s : ByteArray) (p : Nat) (bad : Int) : Prop := Is w b 213 [.string s, .int .i64 p, .int .i64 bad]

set_option maxRecDepth 100000 in
theorem rfail_any (b : Nat) (s : ByteArray) (p : Nat) (at' : Int) (w : World) (hI : RB w b s p (-1)) :
    Calls Tryz.prog 156 #[.pointer (some ⟨b, 0, none⟩), .int .i64 at'] w fun e w' => e = .returned (.tuple #[]) ∧ RB w' b s p at' ∧ Turns b w w' := by
  have c2 : w.cell? ⟨b, 2, none⟩ = some (.int .i64 (-1)) := hI.cell 2
  have f2 : w.frozen? ⟨b, 2, none⟩ = false := hI.free 2
  have HI := hide hI
  clear hI
  go_enter Tryz.func156, Tryz.ntmps156
  go_wp2_with fail
  go_end0
  exact ⟨rfl, (unhide HI).set 2 _, (Turns.refl b w).set 2 _⟩

set_option maxRecDepth 100000 in
theorem rbnumber_bad (b : Nat) (s : ByteArray) (p q : Nat) (w : World) (hI : RB w b s p q) :
    Calls Tryz.prog 155 #[.pointer (some ⟨b, 0, none⟩)] w fun e w' => e = .returned (.int .i64 0) ∧ w' = w := by
  have c2 : w.cell? ⟨b, 2, none⟩ = some (.int .i64 q) := hI.cell 2
  have hq : (0 : Int) ≤ q := by omega
  clear hI
  go_enter Tryz.func155, Tryz.ntmps155
  go_wp2_with fail
  go_ret
  exact ⟨rfl, rfl⟩

theorem found_cases (s : Lk.Bs) (p : Nat) : (∃ n q, Lk.numR s p = .ok n q ∧ (Lk.rd 0 0 (s.drop p)).val = n ∧ (Lk.rd 0 0 (s.drop p)).next p = q ∧ (Lk.rd 0 0 (s.drop p)).badAt p = -1 ∧ (Lk.rd 0 0 (s.drop p)).isShort = false)
    ∨ (∃ q : Nat, Lk.numR s p = .bad q ∧ (Lk.rd 0 0 (s.drop p)).badAt p = q)
    ∨ (Lk.numR s p = .bad s.length ∧ (Lk.rd 0 0 (s.drop p)).badAt p = -1 ∧ (Lk.rd 0 0 (s.drop p)).isShort = true) := by
  unfold Lk.numR
  cases Lk.rd 0 0 (s.drop p) with
  | ok n k => exact .inl ⟨n, p + k, rfl, rfl, rfl, rfl, rfl⟩
  | bad k => exact .inr (.inl ⟨p + k, rfl, rfl⟩)
  | short => exact .inr (.inr ⟨rfl, rfl, rfl⟩)

theorem found_keep {w wx : World} {T : TypeId} (hbx : Below ((w.drew).alloc (.cells #[.int .i64 0, .int .i64 0, .int .i64 0, .bool false] T)).heap.size ((w.drew).alloc (.cells #[.int .i64 0, .int .i64 0, .int .i64 0, .bool false] T)) wx) :
    wx.cell? ⟨w.heap.size, 0, none⟩ = some (.int .i64 0) ∧ wx.cell? ⟨w.heap.size, 1, none⟩ = some (.int .i64 0) ∧ wx.cell? ⟨w.heap.size, 2, none⟩ = some (.int .i64 0) ∧ wx.cell? ⟨w.heap.size, 3, none⟩ = some (.bool false) ∧
    wx.frozen? ⟨w.heap.size, 0, none⟩ = false ∧ wx.frozen? ⟨w.heap.size, 1, none⟩ = false ∧ wx.frozen? ⟨w.heap.size, 2, none⟩ = false ∧ wx.frozen? ⟨w.heap.size, 3, none⟩ = false := by
  have hI : Is wx w.heap.size T [.int .i64 0, .int .i64 0, .int .i64 0, .bool false] := (Is.new w.drew T [.int .i64 0, .int .i64 0, .int .i64 0, .bool false]).below hbx (by simp)
  exact ⟨hI.cell 0, hI.cell 1, hI.cell 2, hI.cell 3, hI.free 0, hI.free 1, hI.free 2, hI.free 3⟩
theorem found_new {w wx : World} {a b c d : Value} {T : TypeId} (hbx : Below w.drew.heap.size w.drew wx) :
    ∃ F, Value.pointer (some ⟨wx.heap.size, 0, none⟩) = .pointer (some ⟨F, 0, none⟩) ∧ w.heap.size ≤ F ∧ Is (wx.alloc (.cells #[a, b, c, d] T)) F T [a, b, c, d] ∧ Below w.heap.size w (wx.alloc (.cells #[a, b, c, d] T)) := by
  have hb : Below w.heap.size w wx := undrewB hbx
  exact ⟨_, rfl, hb.size, Is.new wx T [a, b, c, d], hb.alloc hb.size _⟩
theorem found_set {w wx : World} {a b c d : Value} {T : TypeId} (hbx : Below ((w.drew).alloc (.cells #[.int .i64 0, .int .i64 0, .int .i64 0, .bool false] T)).heap.size ((w.drew).alloc (.cells #[.int .i64 0, .int .i64 0, .int .i64 0, .bool false] T)) wx) :
    ∃ F, Value.pointer (some ⟨w.heap.size, 0, none⟩) = .pointer (some ⟨F, 0, none⟩) ∧ w.heap.size ≤ F ∧ Is ((((wx.setCell ⟨w.heap.size, 0, none⟩ a).setCell ⟨w.heap.size, 1, none⟩ b).setCell ⟨w.heap.size, 2, none⟩ c).setCell ⟨w.heap.size, 3, none⟩ d) F T [a, b, c, d] ∧ Below w.heap.size w ((((wx.setCell ⟨w.heap.size, 0, none⟩ a).setCell ⟨w.heap.size, 1, none⟩ b).setCell ⟨w.heap.size, 2, none⟩ c).setCell ⟨w.heap.size, 3, none⟩ d) := by
  have hI : Is wx w.heap.size T [.int .i64 0, .int .i64 0, .int .i64 0, .bool false] := (Is.new w.drew T [.int .i64 0, .int .i64 0, .int .i64 0, .bool false]).below hbx (by simp)
  have hb : Below w.heap.size w wx := (((Below.refl w.heap.size w).drew).alloc (Nat.le_refl _) _).trans (hbx.mono (by simp))
  exact ⟨_, rfl, Nat.le_refl _, (((hI.set 0 a).set 1 b).set 2 c).set 3 d, (((hb.setCell (Nat.le_refl _) _).setCell (Nat.le_refl _) _).setCell (Nat.le_refl _) _).setCell (Nat.le_refl _) _⟩

set_option maxHeartbeats 2000000 in
set_option maxRecDepth 100000 in
theorem rbnumber_any (b : Nat) (s : ByteArray) (p : Nat) (w : World) (hs : s.size ≤ 2 ^ 48) (hp : p ≤ s.size) (hI : RB w b s p (-1)) :
    Calls Tryz.prog 155 #[.pointer (some ⟨b, 0, none⟩)] w fun e w' =>
      (match Lk.numR s.data.toList p with
        | .ok n q => e = .returned (.int .i64 n) ∧ RB w' b s q (-1)
        | .bad q => e = .returned (.int .i64 0) ∧ RB w' b s p q) ∧ Turns b w w' := by
  have c0 : w.cell? ⟨b, 0, none⟩ = some (.string s) := hI.cell 0
  have c1 : w.cell? ⟨b, 1, none⟩ = some (.int .i64 p) := hI.cell 1
  have c2 : w.cell? ⟨b, 2, none⟩ = some (.int .i64 (-1)) := hI.cell 2
  have hbl := hI.lt
  have HI := hide hI
  have HC := hide (fun w => refnumber_any s p w (by omega) hp)
  have HF := hide (found_cases s.data.toList p)
  clear hI
  generalize Lk.rd 0 0 (s.data.toList.drop p) = R at *
  generalize hnr : Lk.numR s.data.toList p = NR at *
  clear hnr
  go_enter Tryz.func155, Tryz.ntmps155
  go_wp2_with fail
  go_cut [3] (fun u wc => ∃ F, u = .pointer (some ⟨F, 0, none⟩) ∧ w.heap.size ≤ F ∧ Is wc F 187 [.int .i64 R.val, .int .i64 (R.next p), .int .i64 (R.badAt p), .bool R.isShort] ∧ Below w.heap.size w wc)
  case first =>
    first | (go_region_with (go_at_call 84; refine (unhide HC _).mono ?_; rintro e wx ⟨rfl, hbx⟩; (first | (have kk := found_keep hbx; obtain ⟨k0, k1, k2, k3, j0, j1, j2, j3⟩ := kk) | skip))) | fail
    all_goals
      go_wp2_with fail
      go_meet
      first
        | exact found_set hbx
        | exact found_new hbx
  obtain ⟨F, rfl, hF, hIF, hb2⟩ := hcut
  have hI2 : RB wc b s p (-1) := Is.below (unhide HI) hb2 hbl
  have hTb := Below.turns hb2 b
  have hFb : b ≠ F := by omega
  have d0 : wc.cell? ⟨b, 0, none⟩ = some (.string s) := hI2.cell 0
  have d1 : wc.cell? ⟨b, 1, none⟩ = some (.int .i64 p) := hI2.cell 1
  have f1 : wc.frozen? ⟨b, 1, none⟩ = false := hI2.free 1
  have e0 : wc.cell? ⟨F, 0, none⟩ = some (.int .i64 R.val) := hIF.cell 0
  have e1 : wc.cell? ⟨F, 1, none⟩ = some (.int .i64 (R.next p)) := hIF.cell 1
  have e2 : wc.cell? ⟨F, 2, none⟩ = some (.int .i64 (R.badAt p)) := hIF.cell 2
  have e3 : wc.cell? ⟨F, 3, none⟩ = some (.bool R.isShort) := hIF.cell 3
  have HI2 := hide hI2
  have HIF := hide hIF
  have HFB := hide hFb
  clear hI2 hIF c0 c1 c2
  rcases unhide HF with ⟨n, q, rfl, h1, h2, h3, h4⟩ | ⟨q, rfl, h1⟩ | ⟨rfl, h1, h2⟩
  · rw [h1] at e0
    rw [h2] at e1
    rw [h3] at e2
    rw [h4] at e3
    have g0 : (wc.setCell ⟨b, 1, none⟩ (.int .i64 q)).cell? ⟨F, 0, none⟩ = some (.int .i64 n) := by
      have := (Is.other (unhide HIF) ⟨b, 1, none⟩ (.int .i64 q) (Ne.symm (unhide HFB))).cell 0
      rw [h1] at this
      exact this
    clear h1 h2 h3 h4
    go_wp2_with fail
    go_ret
    exact ⟨⟨rfl, (unhide HI2).set 1 _⟩, hTb.set 1 _⟩
  · rw [h1] at e2
    have hq : (0 : Int) ≤ q := by omega
    clear h1
    go_wp2_with fail
    refine (rfail_any b s p q _ (unhide HI2)).mono ?_
    rintro e w3 ⟨rfl, hI3, hT3⟩
    go_wp2_with fail
    go_ret
    exact ⟨⟨rfl, hI3⟩, hTb.trans hT3⟩
  · rw [h1] at e2
    rw [h2] at e3
    clear h1 h2
    go_wp2_with fail
    refine (rfail_any b s p s.size _ (unhide HI2)).mono ?_
    rintro e w3 ⟨rfl, hI3, hT3⟩
    go_wp2_with fail
    go_ret
    exact ⟨⟨rfl, hI3⟩, hTb.trans hT3⟩
end Go.Proofs.YtbkpdapagfjmmaaGreatDoor

/-
  Walks: the document's blocks: a name or a value.
-/
namespace Go.Proofs.YtbkpdapagfjmmaaGreatDoor
open Go.RowKit

namespace Lk
theorem numR_small {s : Bs} {p n q : Nat} (h : numR s p = .ok n q) : n < 2 ^ 62 := by
  unfold numR at h
  cases e : rd 0 0 (s.drop p) with
  | short => rw [e] at h; cases h
  | bad k => rw [e] at h; cases h
  | ok m k =>
    rw [e] at h
    cases h
    have := (rd_canon0 e).2
    omega
end Lk

theorem RB.dn {w : World} {b : Nat} {s : ByteArray} {p : Nat} {z : Int} (n : Nat) (h : RB w b s p z) : RB (w.drewN n) b s p z := h

theorem rbtext_bad (b : Nat) (nm : Bool) (s : ByteArray) (p q : Nat) (w : World) (hI : RB w b s p q) :
    Calls Tryz.prog 157 #[.pointer (some ⟨b, 0, none⟩), .bool nm] w fun e w' => e = .returned (.string ⟨#[]⟩) ∧ w' = w := by
  have c2 : w.cell? ⟨b, 2, none⟩ = some (.int .i64 q) := hI.cell 2
  have hq : (0 : Int) ≤ q := by omega
  have HI := hide hI
  clear hI
  go_enter Tryz.func157, Tryz.ntmps157
  go_wp2_with fail
  refine (rbnumber_bad b s p q _ (unhide HI)).mono ?_
  rintro e w1 ⟨rfl, rfl⟩
  go_wp2_with fail
  go_ret
  exact ⟨rfl, rfl⟩

set_option maxHeartbeats 4000000 in
set_option maxRecDepth 100000 in
theorem rbtext_name (b : Nat) (s : ByteArray) (p : Nat) (w : World) (hs : s.size ≤ 2 ^ 48) (hp : p ≤ s.size) (R : Lk.PR Lk.Bs) (HR : Hid (Lk.textR true s.data.toList p = R)) (hI : RB w b s p (-1)) :
    Calls Tryz.prog 157 #[.pointer (some ⟨b, 0, none⟩), .bool true] w fun e w' =>
      (match R with
        | .ok t q => e = .returned (.string (bs t)) ∧ RB w' b s q (-1)
        | .bad q => e = .returned (.string ⟨#[]⟩) ∧ ∃ p', RB w' b s p' q) ∧ Turns b w w' := by
  have hC := rbnumber_any b s p w hs hp hI
  clear hI
  cases hn : Lk.numR s.data.toList p with
  | bad q =>
    have hR : R = .bad q := by rw [← unhide HR]; unfold Lk.textR; rw [hn]
    subst hR
    rw [hn] at hC
    have HC := hide hC
    have hq : (0 : Int) ≤ q := by omega
    clear hC hn
    go_enter Tryz.func157, Tryz.ntmps157
    go_wp2_with fail
    refine (unhide HC).mono ?_
    rintro e w1 ⟨⟨rfl, hI1⟩, hT1⟩
    have c2 : w1.cell? ⟨b, 2, none⟩ = some (.int .i64 q) := hI1.cell 2
    have HI1 := hide hI1
    clear hI1
    go_wp2_with fail
    go_ret
    exact ⟨⟨rfl, p, unhide HI1⟩, hT1⟩
  | ok n q =>
    have hq := Lk.numR_ge (by rw [← size_list]; exact hp) hn
    rw [← size_list] at hq
    have hnl := Lk.numR_small hn
    rw [hn] at hC
    have HC := hide hC
    have HNR := hide hn
    clear hC hn
    go_enter Tryz.func157, Tryz.ntmps157
    go_wp2_with fail
    refine (unhide HC).mono ?_
    rintro e w1 ⟨⟨rfl, hI1⟩, hT1⟩
    have c1 : w1.cell? ⟨b, 1, none⟩ = some (.int .i64 q) := hI1.cell 1
    have c2 : w1.cell? ⟨b, 2, none⟩ = some (.int .i64 (-1)) := hI1.cell 2
    have HI1 := hide hI1
    clear hI1
    by_cases hl : 1 ≤ (n : Int) ∧ (n : Int) ≤ 16
    · have hl1 : 1 ≤ (n : Int) := hl.1
      have hl2 : (n : Int) ≤ 16 := hl.2
      have HTR := hide (show R = (if Lk.upto Lk.nameByte n (s.data.toList.drop q) = n then .ok ((s.data.toList.drop q).take n) (q + n) else .bad (q + Lk.upto Lk.nameByte n (s.data.toList.drop q))) by
        rw [← unhide HR]; unfold Lk.textR; rw [unhide HNR]; simp only
        rw [if_pos]
        · rfl
        · simp only [Lk.lenOk, if_true, decide_eq_true_eq]
          omega)
      clear hl
      go_wp2_with fail
      go_loopw [7] (fun u wr => ∃ j : Nat, u = .int .i64 j ∧ j ≤ n ∧ q + j ≤ s.size ∧ RB wr b s (q + j) (-1) ∧ Hid (∀ i, i < j → ∃ c, (s.data.toList.drop q)[i]? = some c ∧ Lk.nameByte c = true) ∧ Turns b w wr) (fun u _ => n - (intOf u).toNat)
      case atStart => exact ⟨0, rfl, by omega, by omega, unhide HI1, fun i hi => by omega, hT1⟩
      case round =>
        obtain ⟨j, rfl, hj, hqj, hIr, HJ, hTr⟩ := hrel
        clear c1 c2
        generalize hm : q + j = m at *
        have HM := hide hm
        have c0 : wr.cell? ⟨b, 0, none⟩ = some (.string s) := hIr.cell 0
        have c1 : wr.cell? ⟨b, 1, none⟩ = some (.int .i64 (m : Int)) := hIr.cell 1
        have f1 : wr.frozen? ⟨b, 1, none⟩ = false := hIr.free 1
        have HIr := hide hIr
        clear hIr hm
        by_cases hlt : j < n
        · have hlt' : (j : Int) < n := by omega
          by_cases hend : m < s.size
          · have hend' : ¬ (s.size : Int) ≤ (m : Int) := by omega
            have hend2 : (m : Int) < s.size := by omega
            have hend3 : (0 : Int) ≤ (m : Int) := by omega
            generalize hQ : Lk.nameByte s[m] = Q
            have HQ := hide hQ
            have HL := hide (show ∀ w, Calls Tryz.prog 175 #[.int .u8 s[m].toNat] w fun e w' => e = .returned (.bool Q) ∧ w' = w from fun w => by rw [← hQ]; exact refName_any s[m] w)
            have HV := hide (show Q = true → ∀ w, Calls Tryz.prog 176 #[.int .u8 s[m].toNat] w fun e w' => e = Ending.returned (.bool true) ∧ w' = w from fun h w => by have hh := refValue_any s[m] w; rw [Lk.allows_name (hQ.trans h)] at hh; exact hh)
            clear hQ
            go_wp2_with fail
            go_quiet (fail)
            go_wp2_with fail
            go_quiet (fail)
            go_wp2_with fail
            refine (unhide HL _).mono ?_
            rintro e w2 ⟨rfl, rfl⟩
            have hmq := unhide HM
            cases Q
            · have hu := Lk.upto_of Lk.nameByte n j (s.data.toList.drop q) (by omega) (unhide HJ) (.inr (.inr ⟨s[m], by have := byte_at s q j (by omega); simpa only [hmq] using this, unhide HQ⟩))
              have hR := unhide HTR
              rw [hu, if_neg (by omega), hmq] at hR
              subst hR
              clear hmq
              go_wp2_with fail
              refine (rfail_any b s m m _ (RB.dn _ (unhide HIr))).mono ?_
              rintro e w3 ⟨rfl, hI3, hT3⟩
              go_wp2_with fail
              go_ret
              exact ⟨⟨rfl, m, hI3⟩, (hTr.drewN _).trans hT3⟩
            · have HJ2 : Hid (∀ i, i < j + 1 → ∃ c, (s.data.toList.drop q)[i]? = some c ∧ Lk.nameByte c = true) := fun i hi => by
                rcases Nat.lt_succ_iff_lt_or_eq.1 hi with hi | rfl
                · exact unhide HJ i hi
                · exact ⟨s[m], by have := byte_at s q i (by omega); simpa only [hmq] using this, unhide HQ⟩
              clear hmq
              go_wp2_with fail
              refine (unhide HV trivial _).mono ?_
              rintro e w3 ⟨rfl, rfl⟩
              go_wp2_with fail
              go_roundw
              case rel =>
                have hmq := unhide HM
                refine ⟨j + 1, by simp, by omega, by omega, ?_, HJ2, (hTr.drewN _).set 1 _⟩
                have h5 := fun nn => Is.set (RB.dn nn (unhide HIr)) 1 (.int .i64 ((m : Int) + 1))
                rw [show q + (j + 1) = m + 1 by omega]
                exact h5 _
              case measure => simp [intOf]; omega
          · have hend' : (s.size : Int) ≤ (m : Int) := by omega
            have hmq := unhide HM
            have hu := Lk.upto_of Lk.nameByte n j (s.data.toList.drop q) (by omega) (unhide HJ) (.inr (.inl (byte_end s q j (by omega))))
            have hR := unhide HTR
            rw [hu, if_neg (by omega), show q + j = s.size by omega] at hR
            subst hR
            clear hmq
            go_wp2_with fail
            go_quiet (fail)
            go_wp2_with fail
            refine (rfail_any b s m s.size _ (RB.dn _ (unhide HIr))).mono ?_
            rintro e w3 ⟨rfl, hI3, hT3⟩
            go_wp2_with fail
            go_ret
            exact ⟨⟨rfl, m, hI3⟩, (hTr.drewN _).trans hT3⟩
        · have hlt' : ¬ (j : Int) < n := by omega
          have hjn : j = n := by omega
          subst hjn
          have hmq := unhide HM
          have hu := Lk.upto_of Lk.nameByte j j (s.data.toList.drop q) (by omega) (unhide HJ) (.inl rfl)
          have hR := unhide HTR
          rw [hu, if_pos rfl, hmq] at hR
          subst hR
          have hi1 : (q : Int) ≤ (m : Int) := by omega
          have hi2 : (m : Int) ≤ s.size := by omega
          have hi3 : (0 : Int) ≤ (q : Int) := by omega
          clear hmq
          go_wp2_with fail
          go_quiet (fail)
          go_wp2_with fail
          go_ret
          refine ⟨⟨ret_string ?_, RB.dn _ (unhide HIr)⟩, hTr.drewN _⟩
          rw [← extract_bs, unhide HM]
    · have hbad : R = .bad (q - 1) := by
        rw [← unhide HR]; unfold Lk.textR; rw [unhide HNR]; simp only
        rw [if_neg]
        simp only [Lk.lenOk, if_true, decide_eq_true_eq]
        omega
      subst hbad
      by_cases h1 : (n : Int) < 1
      · go_wp2_with fail
        refine (rfail_any b s q ((q : Int) - 1) _ (unhide HI1)).mono ?_
        rintro e w2 ⟨rfl, hI2, hT2⟩
        go_wp2_with fail
        go_ret
        refine ⟨⟨rfl, q, ?_⟩, hT1.trans hT2⟩
        rw [show ((q - 1 : Nat) : Int) = (q : Int) - 1 by omega]
        exact hI2
      · have h2 : 16 < (n : Int) := by omega
        go_wp2_with fail
        refine (rfail_any b s q ((q : Int) - 1) _ (unhide HI1)).mono ?_
        rintro e w2 ⟨rfl, hI2, hT2⟩
        go_wp2_with fail
        go_ret
        refine ⟨⟨rfl, q, ?_⟩, hT1.trans hT2⟩
        rw [show ((q - 1 : Nat) : Int) = (q : Int) - 1 by omega]
        exact hI2

set_option maxHeartbeats 4000000 in
set_option maxRecDepth 100000 in
theorem rbtext_value (b : Nat) (s : ByteArray) (p : Nat) (w : World) (hs : s.size ≤ 2 ^ 48) (hp : p ≤ s.size) (R : Lk.PR Lk.Bs) (HR : Hid (Lk.textR false s.data.toList p = R)) (hI : RB w b s p (-1)) :
    Calls Tryz.prog 157 #[.pointer (some ⟨b, 0, none⟩), .bool false] w fun e w' =>
      (match R with
        | .ok t q => e = .returned (.string (bs t)) ∧ RB w' b s q (-1)
        | .bad q => e = .returned (.string ⟨#[]⟩) ∧ ∃ p', RB w' b s p' q) ∧ Turns b w w' := by
  have hC := rbnumber_any b s p w hs hp hI
  clear hI
  cases hn : Lk.numR s.data.toList p with
  | bad q =>
    have hR : R = .bad q := by rw [← unhide HR]; unfold Lk.textR; rw [hn]
    subst hR
    rw [hn] at hC
    have HC := hide hC
    have hq : (0 : Int) ≤ q := by omega
    clear hC hn
    go_enter Tryz.func157, Tryz.ntmps157
    go_wp2_with fail
    refine (unhide HC).mono ?_
    rintro e w1 ⟨⟨rfl, hI1⟩, hT1⟩
    have c2 : w1.cell? ⟨b, 2, none⟩ = some (.int .i64 q) := hI1.cell 2
    have HI1 := hide hI1
    clear hI1
    go_wp2_with fail
    go_ret
    exact ⟨⟨rfl, p, unhide HI1⟩, hT1⟩
  | ok n q =>
    have hq := Lk.numR_ge (by rw [← size_list]; exact hp) hn
    rw [← size_list] at hq
    have hnl := Lk.numR_small hn
    rw [hn] at hC
    have HC := hide hC
    have HNR := hide hn
    clear hC hn
    go_enter Tryz.func157, Tryz.ntmps157
    go_wp2_with fail
    refine (unhide HC).mono ?_
    rintro e w1 ⟨⟨rfl, hI1⟩, hT1⟩
    have c1 : w1.cell? ⟨b, 1, none⟩ = some (.int .i64 q) := hI1.cell 1
    have c2 : w1.cell? ⟨b, 2, none⟩ = some (.int .i64 (-1)) := hI1.cell 2
    have HI1 := hide hI1
    clear hI1
    by_cases hl : (n : Int) ≤ 32
    · have hl2 : ¬ 32 < (n : Int) := by omega
      have HTR := hide (show R = (if Lk.upto Lk.valueByte n (s.data.toList.drop q) = n then .ok ((s.data.toList.drop q).take n) (q + n) else .bad (q + Lk.upto Lk.valueByte n (s.data.toList.drop q))) by
        rw [← unhide HR]; unfold Lk.textR; rw [unhide HNR]; simp only
        rw [if_pos]
        · rfl
        · simp only [Lk.lenOk, Bool.false_eq_true, if_false, decide_eq_true_eq]
          omega)
      clear hl
      go_wp2_with fail
      go_loopw [7] (fun u wr => ∃ j : Nat, u = .int .i64 j ∧ j ≤ n ∧ q + j ≤ s.size ∧ RB wr b s (q + j) (-1) ∧ Hid (∀ i, i < j → ∃ c, (s.data.toList.drop q)[i]? = some c ∧ Lk.valueByte c = true) ∧ Turns b w wr) (fun u _ => n - (intOf u).toNat)
      case atStart => exact ⟨0, rfl, by omega, by omega, unhide HI1, fun i hi => by omega, hT1⟩
      case round =>
        obtain ⟨j, rfl, hj, hqj, hIr, HJ, hTr⟩ := hrel
        clear c1 c2
        generalize hm : q + j = m at *
        have HM := hide hm
        have c0 : wr.cell? ⟨b, 0, none⟩ = some (.string s) := hIr.cell 0
        have c1 : wr.cell? ⟨b, 1, none⟩ = some (.int .i64 (m : Int)) := hIr.cell 1
        have f1 : wr.frozen? ⟨b, 1, none⟩ = false := hIr.free 1
        have HIr := hide hIr
        clear hIr hm
        by_cases hlt : j < n
        · have hlt' : (j : Int) < n := by omega
          by_cases hend : m < s.size
          · have hend' : ¬ (s.size : Int) ≤ (m : Int) := by omega
            have hend2 : (m : Int) < s.size := by omega
            have hend3 : (0 : Int) ≤ (m : Int) := by omega
            generalize hQ : Lk.valueByte s[m] = Q
            have HQ := hide hQ
            have HL := hide (show ∀ w, Calls Tryz.prog 176 #[.int .u8 s[m].toNat] w fun e w' => e = .returned (.bool Q) ∧ w' = w from fun w => by rw [← hQ]; exact refValue_any s[m] w)
            have HV := hide True.intro
            clear hQ
            go_wp2_with fail
            go_quiet (fail)
            go_wp2_with fail
            go_quiet (fail)
            go_wp2_with fail
            refine (unhide HL _).mono ?_
            rintro e w2 ⟨rfl, rfl⟩
            have hmq := unhide HM
            cases Q
            · have hu := Lk.upto_of Lk.valueByte n j (s.data.toList.drop q) (by omega) (unhide HJ) (.inr (.inr ⟨s[m], by have := byte_at s q j (by omega); simpa only [hmq] using this, unhide HQ⟩))
              have hR := unhide HTR
              rw [hu, if_neg (by omega), hmq] at hR
              subst hR
              clear hmq
              go_wp2_with fail
              refine (rfail_any b s m m _ (RB.dn _ (unhide HIr))).mono ?_
              rintro e w3 ⟨rfl, hI3, hT3⟩
              go_wp2_with fail
              go_ret
              exact ⟨⟨rfl, m, hI3⟩, (hTr.drewN _).trans hT3⟩
            · have HJ2 : Hid (∀ i, i < j + 1 → ∃ c, (s.data.toList.drop q)[i]? = some c ∧ Lk.valueByte c = true) := fun i hi => by
                rcases Nat.lt_succ_iff_lt_or_eq.1 hi with hi | rfl
                · exact unhide HJ i hi
                · exact ⟨s[m], by have := byte_at s q i (by omega); simpa only [hmq] using this, unhide HQ⟩
              clear hmq
              go_wp2_with fail
              go_roundw
              case rel =>
                have hmq := unhide HM
                refine ⟨j + 1, by simp, by omega, by omega, ?_, HJ2, (hTr.drewN _).set 1 _⟩
                have h5 := fun nn => Is.set (RB.dn nn (unhide HIr)) 1 (.int .i64 ((m : Int) + 1))
                rw [show q + (j + 1) = m + 1 by omega]
                exact h5 _
              case measure => simp [intOf]; omega
          · have hend' : (s.size : Int) ≤ (m : Int) := by omega
            have hmq := unhide HM
            have hu := Lk.upto_of Lk.valueByte n j (s.data.toList.drop q) (by omega) (unhide HJ) (.inr (.inl (byte_end s q j (by omega))))
            have hR := unhide HTR
            rw [hu, if_neg (by omega), show q + j = s.size by omega] at hR
            subst hR
            clear hmq
            go_wp2_with fail
            go_quiet (fail)
            go_wp2_with fail
            refine (rfail_any b s m s.size _ (RB.dn _ (unhide HIr))).mono ?_
            rintro e w3 ⟨rfl, hI3, hT3⟩
            go_wp2_with fail
            go_ret
            exact ⟨⟨rfl, m, hI3⟩, (hTr.drewN _).trans hT3⟩
        · have hlt' : ¬ (j : Int) < n := by omega
          have hjn : j = n := by omega
          subst hjn
          have hmq := unhide HM
          have hu := Lk.upto_of Lk.valueByte j j (s.data.toList.drop q) (by omega) (unhide HJ) (.inl rfl)
          have hR := unhide HTR
          rw [hu, if_pos rfl, hmq] at hR
          subst hR
          have hi1 : (q : Int) ≤ (m : Int) := by omega
          have hi2 : (m : Int) ≤ s.size := by omega
          have hi3 : (0 : Int) ≤ (q : Int) := by omega
          clear hmq
          go_wp2_with fail
          go_quiet (fail)
          go_wp2_with fail
          go_ret
          refine ⟨⟨ret_string ?_, RB.dn _ (unhide HIr)⟩, hTr.drewN _⟩
          rw [← extract_bs, unhide HM]
    · have hbad : R = .bad (q - 1) := by
        rw [← unhide HR]; unfold Lk.textR; rw [unhide HNR]; simp only
        rw [if_neg]
        simp only [Lk.lenOk, Bool.false_eq_true, if_false, decide_eq_true_eq]
        omega
      subst hbad
      have h2 : 32 < (n : Int) := by omega
      go_wp2_with fail
      refine (rfail_any b s q ((q : Int) - 1) _ (unhide HI1)).mono ?_
      rintro e w2 ⟨rfl, hI2, hT2⟩
      go_wp2_with fail
      go_ret
      refine ⟨⟨rfl, q, ?_⟩, hT1.trans hT2⟩
      rw [show ((q - 1 : Nat) : Int) = (q : Int) - 1 by omega]
      exact hI2

end Go.Proofs.YtbkpdapagfjmmaaGreatDoor
