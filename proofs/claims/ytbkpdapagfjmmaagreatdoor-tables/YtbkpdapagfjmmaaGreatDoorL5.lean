/-
  Walks: the document's blocks: a fault, a number.
-/
import Derived.Test.YtbkpdapagfjmmaaGreatDoorSpec5
import Derived.Test.YtbkpdapagfjmmaaGreatDoorT1
import Derived.Test.YtbkpdapagfjmmaaGreatDoorM1
import Derived.Test.YtbkpdapagfjmmaaGreatDoorW4
import Derived.Deep.RegionWith
namespace Go.Proofs.YtbkpdapagfjmmaaGreatDoor
open Go.RowKit

/-- A block of the document's that is taken apart: it is at p; the place of the fault (-1: none). -/
def RB (w : World) (b : Nat) (s : ByteArray) (p : Nat) (bad : Int) : Prop := Is w b 213 [.string s, .int .i64 p, .int .i64 bad]

set_option maxRecDepth 100000 in
theorem rfail_any (b : Nat) (s : ByteArray) (p : Nat) (at' : Int) (w : World) (hI : RB w b s p (-1)) :
    Calls Tryz.prog 156 #[.pointer (some ⟨b, 0, none⟩), .int .i64 at'] w fun e w' => e = .returned (.tuple #[]) ∧ RB w' b s p at' ∧ Turns b w w' := by
  have c2 : w.cell? ⟨b, 2, none⟩ = some (.int .i64 (-1)) := hI.cell 2
  have f2 : w.frozen? ⟨b, 2, none⟩ = false := hI.free 2
  have HI := hide hI
  clear hI
  go_enter Tryz.func156, Tryz.ntmps156
  go_wp2_with fail
  go_end0
  exact ⟨rfl, (unhide HI).set 2 _, (Turns.refl b w).set 2 _⟩

set_option maxRecDepth 100000 in
theorem rbnumber_bad (b : Nat) (s : ByteArray) (p q : Nat) (w : World) (hI : RB w b s p q) :
    Calls Tryz.prog 155 #[.pointer (some ⟨b, 0, none⟩)] w fun e w' => e = .returned (.int .i64 0) ∧ w' = w := by
  have c2 : w.cell? ⟨b, 2, none⟩ = some (.int .i64 q) := hI.cell 2
  have hq : (0 : Int) ≤ q := by omega
  clear hI
  go_enter Tryz.func155, Tryz.ntmps155
  go_wp2_with fail
  go_ret
  exact ⟨rfl, rfl⟩

theorem found_cases (s : Lk.Bs) (p : Nat) : (∃ n q, Lk.numR s p = .ok n q ∧ (Lk.rd 0 0 (s.drop p)).val = n ∧ (Lk.rd 0 0 (s.drop p)).next p = q ∧ (Lk.rd 0 0 (s.drop p)).badAt p = -1 ∧ (Lk.rd 0 0 (s.drop p)).isShort = false)
    ∨ (∃ q : Nat, Lk.numR s p = .bad q ∧ (Lk.rd 0 0 (s.drop p)).badAt p = q)
    ∨ (Lk.numR s p = .bad s.length ∧ (Lk.rd 0 0 (s.drop p)).badAt p = -1 ∧ (Lk.rd 0 0 (s.drop p)).isShort = true) := by
  unfold Lk.numR
  cases Lk.rd 0 0 (s.drop p) with
  | ok n k => exact .inl ⟨n, p + k, rfl, rfl, rfl, rfl, rfl⟩
  | bad k => exact .inr (.inl ⟨p + k, rfl, rfl⟩)
  | short => exact .inr (.inr ⟨rfl, rfl, rfl⟩)

theorem found_keep {w wx : World} {T : TypeId} (hbx : Below ((w.drew).alloc (.cells #[.int .i64 0, .int .i64 0, .int .i64 0, .bool false] T)).heap.size ((w.drew).alloc (.cells #[.int .i64 0, .int .i64 0, .int .i64 0, .bool false] T)) wx) :
    wx.cell? ⟨w.heap.size, 0, none⟩ = some (.int .i64 0) ∧ wx.cell? ⟨w.heap.size, 1, none⟩ = some (.int .i64 0) ∧ wx.cell? ⟨w.heap.size, 2, none⟩ = some (.int .i64 0) ∧ wx.cell? ⟨w.heap.size, 3, none⟩ = some (.bool false) ∧
    wx.frozen? ⟨w.heap.size, 0, none⟩ = false ∧ wx.frozen? ⟨w.heap.size, 1, none⟩ = false ∧ wx.frozen? ⟨w.heap.size, 2, none⟩ = false ∧ wx.frozen? ⟨w.heap.size, 3, none⟩ = false := by
  have hI : Is wx w.heap.size T [.int .i64 0, .int .i64 0, .int .i64 0, .bool false] := (Is.new w.drew T [.int .i64 0, .int .i64 0, .int .i64 0, .bool false]).below hbx (by simp)
  exact ⟨hI.cell 0, hI.cell 1, hI.cell 2, hI.cell 3, hI.free 0, hI.free 1, hI.free 2, hI.free 3⟩
theorem found_new {w wx : World} {a b c d : Value} {T : TypeId} (hbx : Below w.drew.heap.size w.drew wx) :
    ∃ F, Value.pointer (some ⟨wx.heap.size, 0, none⟩) = .pointer (some ⟨F, 0, none⟩) ∧ w.heap.size ≤ F ∧ Is (wx.alloc (.cells #[a, b, c, d] T)) F T [a, b, c, d] ∧ Below w.heap.size w (wx.alloc (.cells #[a, b, c, d] T)) := by
  have hb : Below w.heap.size w wx := undrewB hbx
  exact ⟨_, rfl, hb.size, Is.new wx T [a, b, c, d], hb.alloc hb.size _⟩
theorem found_set {w wx : World} {a b c d : Value} {T : TypeId} (hbx : Below ((w.drew).alloc (.cells #[.int .i64 0, .int .i64 0, .int .i64 0, .bool false] T)).heap.size ((w.drew).alloc (.cells #[.int .i64 0, .int .i64 0, .int .i64 0, .bool false] T)) wx) :
    ∃ F, Value.pointer (some ⟨w.heap.size, 0, none⟩) = .pointer (some ⟨F, 0, none⟩) ∧ w.heap.size ≤ F ∧ Is ((((wx.setCell ⟨w.heap.size, 0, none⟩ a).setCell ⟨w.heap.size, 1, none⟩ b).setCell ⟨w.heap.size, 2, none⟩ c).setCell ⟨w.heap.size, 3, none⟩ d) F T [a, b, c, d] ∧ Below w.heap.size w ((((wx.setCell ⟨w.heap.size, 0, none⟩ a).setCell ⟨w.heap.size, 1, none⟩ b).setCell ⟨w.heap.size, 2, none⟩ c).setCell ⟨w.heap.size, 3, none⟩ d) := by
  have hI : Is wx w.heap.size T [.int .i64 0, .int .i64 0, .int .i64 0, .bool false] := (Is.new w.drew T [.int .i64 0, .int .i64 0, .int .i64 0, .bool false]).below hbx (by simp)
  have hb : Below w.heap.size w wx := (((Below.refl w.heap.size w).drew).alloc (Nat.le_refl _) _).trans (hbx.mono (by simp))
  exact ⟨_, rfl, Nat.le_refl _, (((hI.set 0 a).set 1 b).set 2 c).set 3 d, (((hb.setCell (Nat.le_refl _) _).setCell (Nat.le_refl _) _).setCell (Nat.le_refl _) _).setCell (Nat.le_refl _) _⟩

set_option maxHeartbeats 2000000 in
set_option maxRecDepth 100000 in
theorem rbnumber_any (b : Nat) (s : ByteArray) (p : Nat) (w : World) (hs : s.size ≤ 2 ^ 48) (hp : p ≤ s.size) (hI : RB w b s p (-1)) :
    Calls Tryz.prog 155 #[.pointer (some ⟨b, 0, none⟩)] w fun e w' =>
      (match Lk.numR s.data.toList p with
        | .ok n q => e = .returned (.int .i64 n) ∧ RB w' b s q (-1)
        | .bad q => e = .returned (.int .i64 0) ∧ RB w' b s p q) ∧ Turns b w w' := by
  have c0 : w.cell? ⟨b, 0, none⟩ = some (.string s) := hI.cell 0
  have c1 : w.cell? ⟨b, 1, none⟩ = some (.int .i64 p) := hI.cell 1
  have c2 : w.cell? ⟨b, 2, none⟩ = some (.int .i64 (-1)) := hI.cell 2
  have hbl := hI.lt
  have HI := hide hI
  have HC := hide (fun w => refnumber_any s p w (by omega) hp)
  have HF := hide (found_cases s.data.toList p)
  clear hI
  generalize Lk.rd 0 0 (s.data.toList.drop p) = R at *
  generalize hnr : Lk.numR s.data.toList p = NR at *
  clear hnr
  go_enter Tryz.func155, Tryz.ntmps155
  go_wp2_with fail
  go_cut [3] (fun u wc => ∃ F, u = .pointer (some ⟨F, 0, none⟩) ∧ w.heap.size ≤ F ∧ Is wc F 187 [.int .i64 R.val, .int .i64 (R.next p), .int .i64 (R.badAt p), .bool R.isShort] ∧ Below w.heap.size w wc)
  case first =>
    first | (go_region_with (go_at_call 84; refine (unhide HC _).mono ?_; rintro e wx ⟨rfl, hbx⟩; (first | (have kk := found_keep hbx; obtain ⟨k0, k1, k2, k3, j0, j1, j2, j3⟩ := kk) | skip))) | fail
    all_goals
      go_wp2_with fail
      go_meet
      first
        | exact found_set hbx
        | exact found_new hbx
  obtain ⟨F, rfl, hF, hIF, hb2⟩ := hcut
  have hI2 : RB wc b s p (-1) := Is.below (unhide HI) hb2 hbl
  have hTb := Below.turns hb2 b
  have hFb : b ≠ F := by omega
  have d0 : wc.cell? ⟨b, 0, none⟩ = some (.string s) := hI2.cell 0
  have d1 : wc.cell? ⟨b, 1, none⟩ = some (.int .i64 p) := hI2.cell 1
  have f1 : wc.frozen? ⟨b, 1, none⟩ = false := hI2.free 1
  have e0 : wc.cell? ⟨F, 0, none⟩ = some (.int .i64 R.val) := hIF.cell 0
  have e1 : wc.cell? ⟨F, 1, none⟩ = some (.int .i64 (R.next p)) := hIF.cell 1
  have e2 : wc.cell? ⟨F, 2, none⟩ = some (.int .i64 (R.badAt p)) := hIF.cell 2
  have e3 : wc.cell? ⟨F, 3, none⟩ = some (.bool R.isShort) := hIF.cell 3
  have HI2 := hide hI2
  have HIF := hide hIF
  have HFB := hide hFb
  clear hI2 hIF c0 c1 c2
  rcases unhide HF with ⟨n, q, rfl, h1, h2, h3, h4⟩ | ⟨q, rfl, h1⟩ | ⟨rfl, h1, h2⟩
  · rw [h1] at e0
    rw [h2] at e1
    rw [h3] at e2
    rw [h4] at e3
    have g0 : (wc.setCell ⟨b, 1, none⟩ (.int .i64 q)).cell? ⟨F, 0, none⟩ = some (.int .i64 n) := by
      have := (Is.other (unhide HIF) ⟨b, 1, none⟩ (.int .i64 q) (Ne.symm (unhide HFB))).cell 0
      rw [h1] at this
      exact this
    clear h1 h2 h3 h4
    go_wp2_with fail
    go_ret
    exact ⟨⟨rfl, (unhide HI2).set 1 _⟩, hTb.set 1 _⟩
  · rw [h1] at e2
    have hq : (0 : Int) ≤ q := by omega
    clear h1
    go_wp2_with fail
    refine (rfail_any b s p q _ (unhide HI2)).mono ?_
    rintro e w3 ⟨rfl, hI3, hT3⟩
    go_wp2_with fail
    go_ret
    exact ⟨⟨rfl, hI3⟩, hTb.trans hT3⟩
  · rw [h1] at e2
    rw [h2] at e3
    clear h1 h2
    go_wp2_with fail
    refine (rfail_any b s p s.size _ (unhide HI2)).mono ?_
    rintro e w3 ⟨rfl, hI3, hT3⟩
    go_wp2_with fail
    go_ret
    exact ⟨⟨rfl, hI3⟩, hTb.trans hT3⟩
end Go.Proofs.YtbkpdapagfjmmaaGreatDoor
