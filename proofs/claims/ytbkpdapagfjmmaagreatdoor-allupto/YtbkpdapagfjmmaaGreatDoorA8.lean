import Derived.Test.YtbkpdapagfjmmaaGreatDoorProg
import Derived.Test.YtbkpdapagfjmmaaGreatDoorA7
import Derived.WalkMore
import Derived.ScopeJumps
set_option linter.unusedVariables false
set_option maxRecDepth 100000
set_option maxHeartbeats 16000000
namespace Go.Proofs.YtbkpdapagfjmmaaGreatDoor
open Go.RowKit
theorem jh (b : Nat) (T : TypeId) (s : ByteArray) (p : Nat) (more : List Value) (w : World) (_hs : s.size <= maxLen) (hI : Is w b T (.string s :: .int .i64 p :: more)) :
 Calls Tryz.prog 153 #[.pointer (some ⟨b, 0, none⟩)] w fun e w' => e = .returned (.bool (decide (s.size <= p))) ∧ ∃ n, w' = w.drewN n := by
 unfold maxLen at _hs
 have c0 : w.cell? ⟨b, 0, none⟩ = some (.string s) := hI.cell 0
 have c1 : w.cell? ⟨b, 1, none⟩ = some (.int .i64 p) := hI.cell 1
 clear hI
 go_enter Tryz.func153, Tryz.ntmps153
 go_wp2
 go_quiet (fail)
 go_wp2
 go_ret
 refine ⟨aH (by simp), _, rfl⟩
theorem iZ (b : Nat) (T : TypeId) (s : ByteArray) (p : Nat) (more : List Value) (w : World) (hs : s.size <= maxLen) (hp : p <= s.size) (hI : Is w b T (.string s :: .int .i64 p :: more)) :
 Calls Tryz.prog 133 #[.pointer (some ⟨b, 0, none⟩)] w fun e w' =>
  e = .returned (.tuple #[.int .i64 (Lk.rd 0 0 (s.data.toList.drop p)).val, .bool (Lk.rd 0 0 (s.data.toList.drop p)).good])
  ∧ Is w' b T (.string s :: .int .i64 ((Lk.rd 0 0 (s.data.toList.drop p)).at p s.size : Nat) :: more) ∧ Turns b w w' := by
 have HE := hide (fun q w hI => jh b T s q more w hs hI)
 unfold maxLen at hs
 generalize hr : Lk.rd 0 0 (s.data.toList.drop p) = r
 have HR := hide hr
 clear hr
 go_enter Tryz.func133, Tryz.ntmps133
 go_wp2_with fail
 refine wp_scope_jumps 0 (fun a' w' => ∃ (t q acc : Nat) (u6 u7 u8 u9 u10 u11 u12 u13 u14 u15 u16 u17 u18 u19 u20 u21 u22 u23 u24 u25 u26 u27 u28 u29 u30 u31 u32 u33 u34 u35 u36 u37 u38 u39 u40 u41 u42 u43 u44 u45 u46 u47 : Value), dK s p t q acc ∧ 1 <= t ∧ Is w' b T (.string s :: .int .i64 q :: more) ∧ Turns b w w' ∧
  a' = { tmps := #[.pointer (some ⟨b, 0, none⟩), undef, .int .i64 0, .bool false, .int .i64 acc, .int .i64 t, u6, u7, u8, u9, u10, u11, u12, u13, u14, u15, u16, u17, u18, u19, u20, u21, u22, u23, u24, u25, u26, u27, u28, u29, u30, u31, u32, u33, u34, u35, u36, u37, u38, u39, u40, u41, u42, u43, u44, u45, u46, u47], defers := [] })
  (fun a' _ => 4 - (intOf (a'.tmps.getD 5 undef)).toNat) rfl ?_ ?_
 . have HH := dK.start s p hp
   go_wp2_with fail
   go_step3
   go_wp2_with fail
   by_cases hlt : p < s.size
   . refine (uh HE _ _ hI).mono ?_
     rintro e w1 ⟨rfl, n1, rfl⟩
     have c0 : w.cell? ⟨b, 0, none⟩ = some (.string s) := hI.cell 0
     have c1 : w.cell? ⟨b, 1, none⟩ = some (.int .i64 p) := hI.cell 1
     have f1 : w.frozen? ⟨b, 1, none⟩ = false := hI.free 1
     have hd : decide (s.size <= p) = false := by simp; omega
     go_wp2_with fail
     go_quiet (fail)
     go_wp2_with fail
     . have h0 : s[p].toNat = 0 := by assumption
       obtain ⟨e1, e2, e3⟩ := HH.last HR hlt (by omega) (by omega) (by omega)
       simp only [Exit.jump]
       go_ret2
       rw [e3]
       refine ⟨ny (e1.trans ?_) e2, (hI.drewN _).set 1 _, ((Turns.refl _ _).drewN _).set 1 _⟩
       have e := rP s[p].toNat (ni _)
       rw [h0] at e ⊢
       exact e.symm
     . have hc : 127 < (s[p].toNat : Int) := by assumption
       go_step3
       have HN := HH.next hlt (by omega) (by omega) (by omega)
       rw [rP _ (ni _)]
       exact ⟨rfl, 1, _, _, _, _, _, _, _, _, _, _, _, _, _, _, _, _, _, _, _, _, _, _, _, _, _, _, _, _, _, _, _, _, _, _, _, _, _, _, _, _, _, _, _, _, HN, by omega, (hI.drewN _).set 1 _, ((Turns.refl _ _).drewN _).set 1 _, rfl⟩
     . have hc : (s[p].toNat : Int) <= 127 := by assumption
       obtain ⟨e1, e2, e3⟩ := HH.last HR hlt (by omega) (by omega) (by omega)
       simp only [Exit.jump]
       go_ret2
       rw [e3]
       exact ⟨ny (e1.trans (rP s[p].toNat (ni _)).symm) e2, (hI.drewN _).set 1 _, ((Turns.refl _ _).drewN _).set 1 _⟩
   . refine (uh HE _ _ hI).mono ?_
     rintro e w1 ⟨rfl, n1, rfl⟩
     have hd : decide (s.size <= p) = true := by simp; omega
     obtain ⟨e1, e2, e3⟩ := HH.short HR hlt
     have E3 := hide e3
     have E := hide (ny e1 e2)
     clear e1 e2 e3
     go_wp2_with fail
     simp only [Exit.jump]
     go_ret2
     rw [uh E3]
     exact ⟨uh E, hI.drewN _, (Turns.refl _ _).drewN _⟩
 . rintro a' w' ⟨t, q, acc, u6, u7, u8, u9, u10, u11, u12, u13, u14, u15, u16, u17, u18, u19, u20, u21, u22, u23, u24, u25, u26, u27, u28, u29, u30, u31, u32, u33, u34, u35, u36, u37, u38, u39, u40, u41, u42, u43, u44, u45, u46, u47, HH, ht1, hI', hT, rfl⟩
   have ht : t <= 4 := HH.2.1
   by_cases hlt : q < s.size
   . have c0 : w'.cell? ⟨b, 0, none⟩ = some (.string s) := hI'.cell 0
     have c1 : w'.cell? ⟨b, 1, none⟩ = some (.int .i64 q) := hI'.cell 1
     have f1 : w'.frozen? ⟨b, 1, none⟩ = false := hI'.free 1
     have hd : decide (s.size <= q) = false := by simp; omega
     by_cases ht4 : t = 4
     . obtain ⟨e1, e2, e3⟩ := HH.bad HR hlt (Or.inl ht4)
       have E3 := hide e3
       have E := hide (ny e1 e2)
       clear e1 e2 e3
       have hb4 : ((t : Int) == 4) = true := by simp; omega
       clear ht4
       go_wp2_with fail
       refine (uh HE _ _ hI').mono ?_
       rintro e w1 ⟨rfl, n1, rfl⟩
       go_wp2_with fail
       simp only [Exit.jump]
       go_ret2
       rw [uh E3]
       exact ⟨uh E, hI'.drewN _, hT.drewN _⟩
     . have ht3 : t < 4 := by omega
       clear ht4
       go_wp2_with fail
       refine (uh HE _ _ hI').mono ?_
       rintro e w1 ⟨rfl, n1, rfl⟩
       go_wp2_with fail
       go_quiet (fail)
       go_wp2_with fail
       . obtain ⟨e1, e2, e3⟩ := HH.bad HR hlt (Or.inr ⟨ht1, by assumption⟩)
         simp only [Exit.jump]
         go_ret2
         rw [e3]
         exact ⟨ny e1 e2, hI'.drewN _, hT.drewN _⟩
       . have hc : 127 < (s[q].toNat : Int) := by assumption
         go_step3
         have HN := HH.next hlt ht3 (by omega) (by omega)
         rw [xH t acc _ ht3 HH.2.2.2.1 (ni _)]
         refine ⟨rfl, ⟨t + 1, _, _, _, _, _, _, _, _, _, _, _, _, _, _, _, _, _, _, _, _, _, _, _, _, _, _, _, _, _, _, _, _, _, _, _, _, _, _, _, _, _, _, _, _, HN, by omega, (hI'.drewN _).set 1 _, (hT.drewN _).set 1 _, rfl⟩, ?_⟩
         simp [intOf]
         omega
       . have hc : (s[q].toNat : Int) <= 127 := by assumption
         obtain ⟨e1, e2, e3⟩ := HH.last HR hlt ht3 (by omega) (by omega)
         simp only [Exit.jump]
         go_ret2
         rw [e3]
         exact ⟨ny (e1.trans (xH t acc _ ht3 HH.2.2.2.1 (ni _)).symm) e2, (hI'.drewN _).set 1 _, (hT.drewN _).set 1 _⟩
   . have hd : decide (s.size <= q) = true := by simp; omega
     obtain ⟨e1, e2, e3⟩ := HH.short HR hlt
     have E3 := hide e3
     have E := hide (ny e1 e2)
     clear e1 e2 e3
     go_wp2_with fail
     refine (uh HE _ _ hI').mono ?_
     rintro e w1 ⟨rfl, n1, rfl⟩
     go_wp2_with fail
     simp only [Exit.jump]
     go_ret2
     rw [uh E3]
     exact ⟨uh E, hI'.drewN _, hT.drewN _⟩
end Go.Proofs.YtbkpdapagfjmmaaGreatDoor
