import Derived.Test.YtbkpdapagfjmmaaGreatDoorA36
import Derived.Shelf.Abstract
set_option linter.unusedVariables false
set_option maxRecDepth 100000
set_option maxHeartbeats 16000000
namespace Go.Proofs.YtbkpdapagfjmmaaGreatDoor
open Go.RowKit
def qJ (s n : Int) : Prop := (s ≠ 0 ∧ s ≠ 1) ∨ n < 1 ∨ 200 < n
theorem H5 {s n : Int} (h : ¬ qJ s n) : ∃ (a b : Nat), s = a ∧ n = b ∧ a <= 1 ∧ 1 <= b ∧ b <= 200 := by
 unfold qJ at h
 exact ⟨s.toNat, n.toNat, by omega, by omega, by omega, by omega, by omega⟩
theorem Qj (s n : Int) (h : qJ s n) (w : World) : Calls Tryz.prog 17 #[.int .i64 s, .int .i64 n] w fun e w' => e = .returned (.tuple #[.pointer none, .int .i64 1]) ∧ w' = w := by
 unfold qJ at h
 by_cases h1 : s ≠ 0 ∧ s ≠ 1
 . obtain ⟨h1, h2⟩ := h1
   clear h
   go_enter Tryz.func17, Tryz.ntmps17
   go_wp2_with fail
   go_ret2
   exact ⟨rfl, rfl⟩
 . have h01 : s = 0 ∨ s = 1 := by omega
   by_cases h2 : n < 1
   . clear h h1
     rcases h01 with rfl | rfl
     all_goals
      go_enter Tryz.func17, Tryz.ntmps17
      go_wp2_with fail
      go_ret2
      exact ⟨rfl, rfl⟩
   . have h3 : 200 < n := by omega
     clear h h1
     rcases h01 with rfl | rfl
     all_goals
      go_enter Tryz.func17, Tryz.ntmps17
      go_wp2_with fail
      go_ret2
      exact ⟨rfl, rfl⟩
theorem NM (s n : Int) (h : qJ s n) (w : World) : Calls Tryz.prog 54 #[.int .i64 s, .int .i64 n] w fun e w' => e = .returned (.tuple #[.pointer none, .int .i64 1]) ∧ w' = w := by
 unfold qJ at h
 by_cases h1 : s ≠ 0 ∧ s ≠ 1
 . obtain ⟨h1, h2⟩ := h1
   clear h
   go_enter Tryz.func54, Tryz.ntmps54
   go_wp2_with fail
   go_ret2
   exact ⟨rfl, rfl⟩
 . have h01 : s = 0 ∨ s = 1 := by omega
   by_cases h2 : n < 1
   . clear h h1
     rcases h01 with rfl | rfl
     all_goals
      go_enter Tryz.func54, Tryz.ntmps54
      go_wp2_with fail
      go_ret2
      exact ⟨rfl, rfl⟩
   . have h3 : 200 < n := by omega
     clear h h1
     rcases h01 with rfl | rfl
     all_goals
      go_enter Tryz.func54, Tryz.ntmps54
      go_wp2_with fail
      go_ret2
      exact ⟨rfl, rfl⟩
def BF (b : Nat) : RP := ⟨b + 1, b + 2, b + 3, gQ, gQ, gQ, gQ, gQ⟩
theorem Bd (w : World) (s win : Nat) : aT True ((((w.alloc (.cells (jo (Lk.En.new s win) (BF w.heap.size)).toArray 200)).alloc (.cells #[.int .i64 100, .slice none 0 0] 196)).alloc (.cells #[.int .i64 100, .slice none 0 0] 196)).alloc (.cells #[.string ⟨#[]⟩, .int .i64 0] 54)) w.heap.size (Lk.En.new s win) (BF w.heap.size) := by
 have h0 := Is.new w 200 (jo (Lk.En.new s win) (BF w.heap.size))
 have hsz : (w.alloc (.cells (jo (Lk.En.new s win) (BF w.heap.size)).toArray 200)).heap.size = w.heap.size + 1 := World.size_alloc _ _
 generalize w.alloc (.cells (jo (Lk.En.new s win) (BF w.heap.size)).toArray 200) = w1 at *
 have h1 := Is.new w1 196 [.int .i64 100, gQ]
 have h2 := Is.new (w1.alloc (.cells #[.int .i64 100, .slice none 0 0] 196)) 196 [.int .i64 100, gQ]
 have h3 := Is.new ((w1.alloc (.cells #[.int .i64 100, .slice none 0 0] 196)).alloc (.cells #[.int .i64 100, .slice none 0 0] 196)) 54 [.string ⟨#[]⟩, .int .i64 0]
 rw [World.size_alloc, hsz] at h2
 rw [World.size_alloc, World.size_alloc, hsz] at h3
 rw [hsz] at h1
 refine ⟨((h0.alloc _).alloc _).alloc _, ⟨(h1.alloc _).alloc _, World.ownsRow_nil _ _ _ _, by simp [Lk.En.new, Lk.weights], by omega⟩, ⟨h2.alloc _, World.ownsRow_nil _ _ _ _, by simp [Lk.En.new, Lk.weights], by omega⟩, ⟨⟨#[]⟩, 0, h3, fun _ _ => ⟨rfl, rfl⟩⟩, nY.nil _, World.ownsRow_nil _ _ _ _, World.ownsRow_nil _ _ _ _, ?_, .inl rfl⟩
 show w.heap.size + 1 ≠ w.heap.size + 2
 omega
theorem Ky (s win : Nat) (hs : s <= 1) (h1 : 1 <= win) (h2 : win <= 200) (w : World) :
 Calls Tryz.prog 54 #[.int .i64 (s : Int), .int .i64 (win : Int)] w fun e w' => ∃ b p, e = .returned (.tuple #[.pointer (some ⟨b, 0, none⟩), .int .i64 0]) ∧ aT True w' b (Lk.En.new s win) p ∧ (∀ i, aI b p i -> w.heap.size <= i) ∧ Below w.heap.size w w' := by
 have Uy : s = 0 ∨ s = 1 := by omega
 have hw1 : ¬ (win : Int) < 1 := by omega
 have hw2 : ¬ 200 < (win : Int) := by omega
 have HS := hide (⟨hs, h1, h2⟩ : _ ∧ _ ∧ _)
 have hwb : (win : Int) <= 200 := by omega
 have hw0 : (1 : Int) <= win := by omega
 clear h1 h2 hs
 rcases Uy with rfl | rfl
 all_goals
  go_enter Tryz.func54, Tryz.ntmps54
  go_wp2_with fail
  go_ret2
  refine ⟨w.heap.size, rfl, BF w.heap.size, ?_, fun i hi => ?_, ?_⟩
  . first
    | (have h := Bd w 0 win
       simp only [jo, Lk.En.new, BF, ptr] at h
       simpa [BF, Lk.En.new, ptr] using h)
    | (have h := Bd w 1 win
       simp only [jo, Lk.En.new, BF, ptr] at h
       simpa [BF, Lk.En.new, ptr] using h)
  . rcases hi with hi | hi | hi | hi | hi | hi | hi | hi | hi
    . omega
    . have hi : i = w.heap.size + 1 := hi
      omega
    . have hi : i = w.heap.size + 2 := hi
      omega
    . have hi : i = w.heap.size + 3 := hi
      omega
    all_goals cases hi
  . exact ((((Below.refl w.heap.size w).alloc (Nat.le_refl _) _).alloc (by simp) _).alloc (by simp; omega) _).alloc (by simp; omega) _
namespace Lk
theorem En.Kz (e : En) (n : Nat) : (e.back n).down = e.down := by unfold En.back; split <;> rfl
theorem En.H6 (e : En) (t : Bs) : (e.iy t).2.down = e.down := by unfold En.iy; split <;> (try split) <;> rfl
theorem En.KA (e : En) : e.iC.2.down = e.down := by unfold En.iC; split <;> (try split) <;> rfl
theorem En.Be (e : En) (l : List Hd) (t : Bs) : (e.aW l t).2.down = e.down := by
 unfold En.aW
 split
 . rfl
 . split
   . rfl
   . split
     . rfl
     . split
       . rfl
       . split <;> rfl
theorem En.yT (e : En) (k n : Int) : (e.aP k n).2.down = e.down := by
 unfold En.aP
 split
 . rfl
 . split
   . rfl
   . split
     . rfl
     . split
       . rfl
       . split
         . rfl
         . simp only
           split <;> rfl
theorem En.DV (e : En) (k n : Int) : (e.dN k n).2.down = e.down := by
 unfold En.dN
 split
 . rfl
 . split
   . rfl
   . split
     . rfl
     . split
       . simp only
         rw [En.Kz]
         rfl
       . rfl
end Lk
theorem wL.c2 {w : World} {b : Nat} {e : Lk.En} {d : PD} (h : wL w b e d) : w.cell? ⟨b, 2, .none⟩ = some (.int .i64 (e.down : Int)) := h.rw.blk.cell 2
theorem uB {n : Nat} (h : n ≠ 0) : ((n : Int) != 0) = true := by simp; omega
theorem Qk (b : Nat) (n : Nat) (t : Value) (w : World) (hb : b < w.heap.size) (c2 : w.cell? ⟨b, 2, none⟩ = some (.int .i64 (n : Int))) (hn : n ≠ 0) :
 Calls Tryz.prog 33 #[.pointer (some ⟨b, 0, none⟩), t] w fun r w' => r = .returned (.int .i64 13) ∧ w' = w := by
 have HD := hide (bJ b n w hb c2)
 rw [uB hn] at HD
 clear hn
 go_enter Tryz.func33, Tryz.ntmps33
 go_wp2_with fail
 refine (uh HD).mono ?_
 rintro r w1 ⟨rfl, rfl⟩
 go_wp2_with fail
 go_ret
 exact ⟨rfl, rfl⟩
theorem Oq (b : Nat) (n : Nat) (w : World) (hb : b < w.heap.size) (c2 : w.cell? ⟨b, 2, none⟩ = some (.int .i64 (n : Int))) (hn : n ≠ 0) :
 Calls Tryz.prog 34 #[.pointer (some ⟨b, 0, none⟩)] w fun r w' => r = .returned (.int .i64 13) ∧ w' = w := by
 have HD := hide (bJ b n w hb c2)
 rw [uB hn] at HD
 clear hn
 go_enter Tryz.func34, Tryz.ntmps34
 go_wp2_with fail
 refine (uh HD).mono ?_
 rintro r w1 ⟨rfl, rfl⟩
 go_wp2_with fail
 go_ret
 exact ⟨rfl, rfl⟩
theorem H7 (b : Nat) (n : Nat) (k m : Int) (w : World) (hb : b < w.heap.size) (c2 : w.cell? ⟨b, 2, none⟩ = some (.int .i64 (n : Int))) (hn : n ≠ 0) :
 Calls Tryz.prog 31 #[.pointer (some ⟨b, 0, none⟩), .int .i64 k, .int .i64 m] w fun r w' => r = .returned (.int .i64 13) ∧ w' = w := by
 have HD := hide (bJ b n w hb c2)
 rw [uB hn] at HD
 clear hn
 go_enter Tryz.func31, Tryz.ntmps31
 go_wp2_with fail
 refine (uh HD).mono ?_
 rintro r w1 ⟨rfl, rfl⟩
 go_wp2_with fail
 go_ret
 exact ⟨rfl, rfl⟩
theorem NP (b : Nat) (n : Nat) (k m : Int) (w : World) (hb : b < w.heap.size) (c2 : w.cell? ⟨b, 2, none⟩ = some (.int .i64 (n : Int))) (hn : n ≠ 0) :
 Calls Tryz.prog 69 #[.pointer (some ⟨b, 0, none⟩), .int .i64 k, .int .i64 m] w fun r w' => r = .returned (.int .i64 13) ∧ w' = w := by
 have HD := hide (bJ b n w hb c2)
 rw [uB hn] at HD
 clear hn
 go_enter Tryz.func69, Tryz.ntmps69
 go_wp2_with fail
 refine (uh HD).mono ?_
 rintro r w1 ⟨rfl, rfl⟩
 go_wp2_with fail
 go_ret
 exact ⟨rfl, rfl⟩
theorem KC (b : Nat) (n : Nat) (lv body : Value) (w : World) (hb : b < w.heap.size) (c2 : w.cell? ⟨b, 2, none⟩ = some (.int .i64 (n : Int))) (hn : n ≠ 0) :
 Calls Tryz.prog 19 #[.pointer (some ⟨b, 0, none⟩), lv, body] w fun r w' => r = .returned (.tuple #[.int .i64 0, .int .i64 13, .int .i64 0]) ∧ w' = w := by
 have HD := hide (bJ b n w hb c2)
 rw [uB hn] at HD
 clear hn
 go_enter Tryz.func19, Tryz.ntmps19
 go_wp2_with fail
 refine (uh HD).mono ?_
 rintro r w1 ⟨rfl, rfl⟩
 go_wp2_with fail
 go_ret3
 exact ⟨rfl, rfl⟩
theorem Si (b : Nat) (e : Lk.En) (d : PD) (t : ByteArray) (w : World) (hL : kM w b e d) :
 Calls Tryz.prog 33 #[.pointer (some ⟨b, 0, none⟩), .string t] w fun r w' => r = .returned (.int .i64 ((e.iy t.data.toList).1 : Int)) ∧ iO w b d (e.iy t.data.toList).2 w' := by
 rcases hL with ⟨hL, hdn⟩ | hL
 . exact (MS b e d t w hL hdn).mono fun r w' h => ⟨h.1, h.2.toP ((Lk.En.H6 _ _).trans hdn)⟩
 . have : e.iy t.data.toList = (13, e) := by unfold Lk.En.iy; rw [if_pos hL.dn]
   rw [this]
   exact (Qk b e.down _ w hL.rw.lt hL.c2 hL.dn).mono fun r w' h => ⟨h.1, by rw [h.2]; exact iO.same (.inr hL)⟩
theorem Uz (b : Nat) (e : Lk.En) (d : PD) (w : World) (hL : kM w b e d) :
 Calls Tryz.prog 34 #[.pointer (some ⟨b, 0, none⟩)] w fun r w' => r = .returned (.int .i64 (e.iC.1 : Int)) ∧ iO w b d e.iC.2 w' := by
 rcases hL with ⟨hL, hdn⟩ | hL
 . exact (PI b e d w hL hdn).mono fun r w' h => ⟨h.1, h.2.toP ((Lk.En.KA _).trans hdn)⟩
 . have : e.iC = (13, e) := by unfold Lk.En.iC; rw [if_pos hL.dn]
   rw [this]
   exact (Oq b e.down w hL.rw.lt hL.c2 hL.dn).mono fun r w' h => ⟨h.1, by rw [h.2]; exact iO.same (.inr hL)⟩
theorem KE (b : Nat) (e : Lk.En) (d : PD) (k n : Int) (w : World) (hL : kM w b e d) (hk : I64 k) :
 Calls Tryz.prog 31 #[.pointer (some ⟨b, 0, none⟩), .int .i64 k, .int .i64 n] w fun r w' => r = .returned (.int .i64 ((e.aP k n).1 : Int)) ∧ iO w b d (e.aP k n).2 w' := by
 rcases hL with ⟨hL, hdn⟩ | hL
 . exact (CW b e d k n w hL hdn hk).mono fun r w' h => ⟨h.1, h.2.toP ((Lk.En.yT _ _ _).trans hdn)⟩
 . have : e.aP k n = (13, e) := by unfold Lk.En.aP; rw [if_pos hL.dn]
   rw [this]
   exact (H7 b e.down _ _ w hL.rw.lt hL.c2 hL.dn).mono fun r w' h => ⟨h.1, by rw [h.2]; exact iO.same (.inr hL)⟩
theorem Ql (b : Nat) (e : Lk.En) (d : PD) (k n : Int) (w : World) (hL : kM w b e d) (hk : I64 k) :
 Calls Tryz.prog 69 #[.pointer (some ⟨b, 0, none⟩), .int .i64 k, .int .i64 n] w fun r w' => r = .returned (.int .i64 ((e.dN k n).1 : Int)) ∧ iO w b d (e.dN k n).2 w' := by
 rcases hL with ⟨hL, hdn⟩ | hL
 . exact (JD b e d k n w hL hdn hk).mono fun r w' h => ⟨h.1, h.2.toP ((Lk.En.DV _ _ _).trans hdn)⟩
 . have : e.dN k n = (13, e) := by unfold Lk.En.dN; rw [if_pos hL.dn]
   rw [this]
   exact (NP b e.down _ _ w hL.rw.lt hL.c2 hL.dn).mono fun r w' h => ⟨h.1, by rw [h.2]; exact iO.same (.inr hL)⟩
theorem NQ (b B1 : Nat) (e : Lk.En) (d : PD) (l : List Lk.Hd) (lv : Value) (body : ByteArray) (w : World) (hL : kM w b e d) (hfx : Fx w) (own : w.ownsRow B1 112 2 lv l.length (aQ l)) :
 Calls Tryz.prog 19 #[.pointer (some ⟨b, 0, none⟩), lv, .string body] w fun r w' => r = .returned (.tuple #[.int .i64 ((e.aW l body.data.toList).1.1 : Int), .int .i64 ((e.aW l body.data.toList).1.2.1 : Int), .int .i64 ((e.aW l body.data.toList).1.2.2 : Int)]) ∧ iO w b d (e.aW l body.data.toList).2 w' := by
 rcases hL with ⟨hL, hdn⟩ | hL
 . exact (GR b B1 e d l lv body w hL hdn hfx own).mono fun r w' h => ⟨h.1, h.2.toP ((Lk.En.Be _ _ _).trans hdn)⟩
 . have : e.aW l body.data.toList = ((0, 13, 0), e) := by unfold Lk.En.aW; rw [if_pos hL.dn]
   rw [this]
   exact (KC b e.down _ _ w hL.rw.lt hL.c2 hL.dn).mono fun r w' h => ⟨h.1, by rw [h.2]; exact iO.same (.inr hL)⟩
open Go.RowKit
theorem Bf (k : Nat) (args : Array Value) (w : World) : (callFunc (lQ k) args).run Tryz.prog w = .ok (.enter (lQ k) args) w := by
 unfold lQ
 repeat' split
 . exact Tryz.call90 args w
 . exact Tryz.call91 args w
 . exact Tryz.call92 args w
 . exact Tryz.call93 args w
 . exact Tryz.call94 args w
 . exact Tryz.call95 args w
 . exact Tryz.call96 args w
 . exact Tryz.call97 args w
theorem H8 (b n : Nat) (t : Value) (w : World) (hb : b < w.heap.size) (c2 : w.cell? ⟨b, 2, none⟩ = some (.int .i64 (n : Int))) (hn : n ≠ 0) :
 Calls Tryz.prog 22 #[.pointer (some ⟨b, 0, none⟩), t] w fun r w' => r = .returned (.tuple #[.slice none 0 0, .int .i64 (n : Int)]) ∧ ∃ k, w' = w.drewN k := by
 have HD := hide (bJ b n w hb c2)
 have hdb : ((n : Int) != 0) = true := by simp; omega
 rw [hdb] at HD
 clear hn hdb
 go_enter Tryz.func22, Tryz.ntmps22
 go_wp2_with fail
 refine (uh HD).mono ?_
 rintro r w1 ⟨rfl, rfl⟩
 go_wp2_with (go_quiet (fail))
 go_ret2
 exact ⟨rfl, _, rfl⟩
theorem H9 (b : Nat) (e : Lk.En) (d : PD) (t : ByteArray) (w : World) (hL : Live w b e d) (hdn : e.down = 0) (hfx : Fx w) (ht : t.size <= 2 ^ 39) :
 Calls Tryz.prog 22 #[.pointer (some ⟨b, 0, none⟩), .string t] w fun r w' => ∃ v, r = .returned (.tuple #[v, .int .i64 ((e.feed t.data.toList).2.down : Int)]) ∧ DJ w b d (e.feed t.data.toList).2 (e.feed t.data.toList).1 v w' := by
 have hbl := hL.rw.lt
 have hpb := hL.pos b (.inl rfl)
 have c2 : w.cell? ⟨b, 2, none⟩ = some (.int .i64 0) := hL.c2 hdn
 have hO0 : Only (fun _ => False) w (w.alloc (.cells #[.slice none 0 0] 62)) := (Only.refl _ w).alloc _
 have hL0 := hL.only hO0 (fun _ _ h => h)
 have hI0 : Is (w.alloc (.cells #[.slice none 0 0] 62)) b 101 (.string (bs e.rest) :: .int .i64 0 :: .int .i64 0 :: ((fH e d).cells.drop 3)) := by
  have := hL0.rw.blk
  have h2 : (fH e d).cells = .string (bs e.rest) :: .int .i64 0 :: .int .i64 (e.down : Int) :: ((fH e d).cells.drop 3) := rfl
  rw [h2, hdn] at this
  exact this
 have hT0 : Told (w.alloc (.cells #[.slice none 0 0] 62)) w.heap.size w.heap.size (.slice none 0 0) [] := ⟨Is.new w 62 [.slice none 0 0], World.ownsRow_nil _ _ _ _, by simp, by simp⟩
 have Xg : e.rest.length <= 72 := by
  have := Lk.lW e.rest (by rw [hL.wf.rest])
  rw [hL.wf.rest] at this
  exact this
 have HRF := hide (xP b (bs e.rest) t _ (by rw [af, fJ]; omega) hI0)
 rw [fJ] at HRF
 have hgood := (Lk.kY (e.rest ++ t.data.toList)).1
 have hlenA := Lk.Ci (e.rest ++ t.data.toList)
 have uz := Lk.qV (e.rest ++ t.data.toList)
 have htl : t.data.toList.length <= 2 ^ 39 := by rw [<- af]; exact ht
 rw [List.length_append] at hlenA
 generalize hA : Lk.all (e.rest ++ t.data.toList) = A at *
 obtain ⟨fs, flt, rest⟩ := A
 simp only at HRF hgood hlenA uz
 generalize hR : ((e.at rest).dn flt).run fs = R
 have hF := e.qZ t.data.toList hdn _ hA R (by simpa using hR)
 simp only at hF
 rw [hF]
 simp only
 have RY : fs.length <= 2 ^ 38 := by omega
 generalize hEE : (R.2.2.dn (if R.2.1 = 0 then flt else R.2.1)).falls = EE
 have HEE := hide hEE
 clear hEE
 have HST : Hid (∀ (W : World) (fv : Value), W.ownsRow (w.alloc (.cells #[.slice none 0 0] 62)).heap.size 79 3 fv fs.length (aZ fs) -> Is W b 101 (.string ⟨rest.toArray⟩ :: .int .i64 0 :: .int .i64 (flt : Int) :: ((fH e d).cells.drop 3)) -> Turns b (w.alloc (.cells #[.slice none 0 0] 62)) W -> Fd w W b w.heap.size d fv fs R 0 ((e.at rest).dn flt) d (.slice none 0 0) []) := by
  intro W fv ho hI hT
  have hO : Only (· = b) (w.alloc (.cells #[.slice none 0 0] 62)) W := Only.dP hT
  have hsz0 : (w.alloc (.cells #[.slice none 0 0] 62)).heap.size = w.heap.size + 1 := by simp
  have hne : ∀ i, foot b d i -> i < w.heap.size := hL.lt
  refine ⟨⟨hL0.again uz hI hO, hT0.only hO (fun i hi => ?_), fun i hi hf => ?_, ?_, ?_, by omega, Nat.le_refl _⟩, by simp, own_base (by rw [hsz0]; omega) ho, fun x hx => ?_, fun i hi => .inl hi, ?_, ?_⟩
  . rcases hi with rfl | hi | ⟨p, hp, _⟩
    . omega
    . cases hi
    . cases hp
  . rcases hi with rfl | hi | ⟨p, hp, _⟩
    . have := hne _ hf; omega
    . cases hi
    . cases hp
  . exact (hfx.only hO0 (fun h => h)).only hO (fun h => by omega)
  . have := hO.size; omega
  . have := (ho.lt x hx).1
    rw [hsz0] at this
    refine ⟨fun hf => by have := hne x hf; omega, fun hf => ?_⟩
    rcases hf with rfl | hi | ⟨p, hp, _⟩
    . omega
    . cases hi
    . cases hp
  . exact (hO0.mono (fun _ h => h.elim)).trans hO (fun i hi _ => .inl (.inl hi))
  . simpa using hR
 have Qm := hide hgood
 have HLEN := hide RY
 have hRd : R.2.2.down = flt := by
  rw [<- hR, Lk.En.Ez]
  rfl
 have HRD := hide hRd
 clear hL hdn hfx hO0 hL0 hI0 hT0 Xg hA hR hgood hlenA uz htl RY hF hRd ht
 go_enter Tryz.func22, Tryz.ntmps22
 go_wp2_with fail
 refine (bJ b 0 w hbl c2).mono ?_
 rintro r w0 ⟨rfl, rfl⟩
 clear c2
 go_wp2_with fail
 refine (uh HRF).mono ?_
 rintro r w1 ⟨fv, rfl, ho, hI, hT⟩
 have HFD := hide (uh HST w1 fv ho hI hT)
 obtain ⟨fa, fn, fc, rfl, rfl⟩ := bV ho
 clear ho hI hT HRF HST
 go_wp2_with fail
 go_loopw [9, 31] (fun s9 u wr => ∃ (i : Nat) (e1 : Lk.En) (d1 : PD) (v1 : Value) (yR : List EvH), s9 = .int .i64 (flt : Int) ∧ u = .int .i64 i ∧ i <= fs.length ∧ Hid (Fd w0 wr b w0.heap.size d (.slice fa fs.length fc) fs R i e1 d1 v1 yR)) (fun _ u _ => fs.length - (intOf u).toNat)
 case atStart => exact ⟨0, _, d, _, [], rfl, rfl, Nat.zero_le _, uh HFD⟩
 case round =>
  clear HFD
  obtain ⟨i, e1, d1, v1, yR, rfl, rfl, hil, HF⟩ := hrel
  have Yi : (i : Int) + 1 <= 9223372036854775807 := by have := uh HLEN; omega
  by_cases hlt : i < fs.length
  . have hlt' : (i : Int) < fs.length := by omega
    have hfs := uh HF
    rcases jF hfs.frs with ⟨h0, _⟩ | ⟨fg, Xh, hv, hfB, hfl, hcap, hcell⟩
    . rw [h0] at hlt; simp at hlt
    obtain ⟨rfl, _, rfl⟩ : fa = some ⟨fg, 0, none⟩ ∧ True ∧ fc = Xh := by
     injection hv with h1 h2 h3
     exact ⟨h1, trivial, h3⟩
    obtain ⟨c0, c1, c2⟩ := hcell i hlt
    have c2 : wr.cell? ⟨fg, i * 3 + 2, none⟩ = some (.string (bs fs[i].d)) := c2
    have hgd := uh Qm fs[i] (List.getElem_mem hlt)
    have hev : yR.length + 1 <= 2 ^ 40 := by have := hfs.len; have := uh HLEN; omega
    have hstep := fun W hG => hfs.step (W' := W) hlt hG
    have Qn := hide hstep
    generalize fs[i] = f at *
    have hF0 := hfs.below ((Below.refl _ wr).alloc (Nat.le_refl _) (.cells #[.int .i64 (f.k : Int), .int .i64 (f.st : Int), .string (bs f.d)] 79))
    have HWK := hide (NC b w0.heap.size w0.heap.size e1 d1 v1 yR f (wr.alloc (.cells #[.int .i64 (f.k : Int), .int .i64 (f.st : Int), .string (bs f.d)] 79)).drew hF0.up.drew hev hgd)
    have HWO := hide (fun W => Hw f.k hgd.k7 W)
    have hWN := Bf f.k
    generalize lQ f.k = WN at HWK HWO hWN
    unfold frA dO at HWK
    have HX := hide (⟨hfs, hF0⟩ : _ ∧ _)
    clear hfs hv hcell hgd hstep hF0 hev hcap
    go_wp2_with fail
    go_cut [12] (fun s12 wc => s12 = .int .i64 ((e1.frame f).2.1 : Int) ∧ Hid (az wr b d1 w0.heap.size w0.heap.size v1 yR (e1.frame f).2.2 (e1.frame f).1 wc))
    case first =>
     go_region_with (first
      | (go_at_call 49; refine (uh HWO _).mono ?_; rintro r w2 ⟨rfl, rfl⟩)
      | (go_at_fn WN; refine (uh HWK).mono ?_; rintro r w3 ⟨rfl, hG⟩))
     all_goals
      go_wp2_with fail
      go_meet
      exact ⟨rfl, az.before ((Below.refl _ wr).alloc (Nat.le_refl _) _) (az.before (Below.drew (Below.refl _ _)) hG)⟩
    case rest =>
     obtain ⟨rfl, HG⟩ := hcut
     obtain ⟨d2, v2, A7, k1, k2, k3, k4, k5, k6⟩ := uh Qn _ (uh HG)
     have hcg : wc.cell? ⟨w0.heap.size, 0, none⟩ = some v2 := k1.told.box.cell 0
     have hgl := k1.told.box.lt
     by_cases herr : (e1.frame f).2.1 = 0
     . have HNX := hide (k5 herr)
       rw [herr]
       clear k1 k2 k3 k4 k5 k6 hcg herr HG Qn HWK HWO c0 c1 c2
       go_wp2_with fail
       go_roundw
       case rel => exact ⟨i + 1, _, d2, v2, A7, rfl, by go_num, by omega, HNX⟩
       case measure => simp [intOf]; omega
     . have hR := k6 herr
       have NS : (if R.2.1 = 0 then flt else R.2.1) = (e1.frame f).2.1 := by rw [hR, if_neg herr]
       have KF : ∀ W', iO wc b d2 ((e1.frame f).2.2.dn (e1.frame f).2.1).falls W' -> DJ w0 b d EE R.1 v2 W' := fun W' hP => by
        rw [<- uh HEE, NS, hR]
        exact Fd.fell k1 k2 k3 hP
       have Sj : ∀ W', iO wc b d2 ((e1.frame f).2.2.dn (e1.frame f).2.1).falls W' -> W'.cell? ⟨w0.heap.size, 0, none⟩ = some v2 ∧ w0.heap.size < W'.heap.size := fun W' hP => by
        obtain ⟨_, _, _, hO⟩ := hP
        have := k1.told.box.only hO (k1.sep _ (.inl rfl))
        exact ⟨this.cell 0, this.lt⟩
       have hdn : (EE.down : Int) = ((e1.frame f).2.1 : Int) := by
        rw [<- uh HEE, Lk.En.vO, NS]
        rfl
       have Qo := hide (Fe b (e1.frame f).2.1 (e1.frame f).2.2 d2 wc k1.live herr)
       have HPO := hide (⟨KF, Sj, hdn⟩ : _ ∧ _ ∧ _)
       obtain ⟨va, vn, oM, hva, hvn⟩ := bV k1.told.row
       subst hva
       clear hvn
       have Xi : (((e1.frame f).2.1 : Int) != 0) = true := by simp; omega
       have Vq : b < wc.heap.size := k1.live.rw.lt
       clear k1 k2 k3 k4 k5 k6 hcg HG Qn HWK HWO c0 c1 c2 hR NS KF Sj hdn herr
       generalize (e1.frame f).2.1 = er at *
       go_wp2_with fail
       refine (uh Qo).mono ?_
       rintro r w4 ⟨rfl, hP⟩
       obtain ⟨p1, p2, p3⟩ := uh HPO
       obtain ⟨q1, q2⟩ := p2 w4 hP
       have jD := hide (⟨p1 w4 hP, p3⟩ : _ ∧ _)
       clear p1 p2 p3 hP
       go_wp2_with fail
       go_ret2
       obtain ⟨p1, p3⟩ := uh jD
       exact ⟨_, by rw [p3]; rfl, p1⟩
  . have hie : i = fs.length := by omega
    have hlt' : ¬ (i : Int) < fs.length := by omega
    have hF := uh HF
    have hres := hF.res
    rw [hie, List.drop_length] at hres
    have hR : R = (yR.map Prod.fst, 0, e1) := by rw [<- hres]; simp [Lk.En.run]
    have NS : (if R.2.1 = 0 then flt else R.2.1) = flt := by rw [hR]; simp
    have hed : e1.down = flt := by
     have := uh HRD
     rw [hR] at this
     exact this
    have k1 := hF.up
    have hcg : wr.cell? ⟨w0.heap.size, 0, none⟩ = some v1 := k1.told.box.cell 0
    have hgl := k1.told.box.lt
    obtain ⟨va, vn, oM, hva, hvn⟩ := bV k1.told.row
    subst hva
    clear hvn
    by_cases h0 : flt = 0
    . have hfin : DJ w0 b d EE R.1 (.slice va vn oM) wr ∧ (EE.down : Int) = 0 := by
       have he : (e1.dn flt).falls = e1 := by
        have : e1.dn flt = e1 := by rw [<- hed]; rfl
        rw [this]
        unfold Lk.En.falls
        rw [if_neg (fun h => h.1 (hed.trans h0))]
       rw [<- uh HEE, NS, hR]
       simp only
       rw [he]
       exact ⟨Fd.fine k1 hF.grow hF.only (hed.trans h0), by rw [hed, h0]; rfl⟩
      have jD := hide hfin
      have h0' : ((flt : Int) != 0) = false := by rw [h0]; rfl
      clear hfin hF hres hR NS hed k1 HF Qm HLEN HRD
      subst h0
      go_wp2_with fail
      go_ret2
      obtain ⟨p1, p3⟩ := uh jD
      exact ⟨_, by rw [p3]; rfl, p1⟩
    . have KF : ∀ W', iO wr b d1 (e1.dn flt).falls W' -> DJ w0 b d EE R.1 (.slice va vn oM) W' := fun W' hP => by
       rw [<- uh HEE, NS, hR]
       exact Fd.fell k1 hF.grow hF.only hP
      have Sj : ∀ W', iO wr b d1 (e1.dn flt).falls W' -> W'.cell? ⟨w0.heap.size, 0, none⟩ = some (.slice va vn oM) ∧ w0.heap.size < W'.heap.size := fun W' hP => by
       obtain ⟨_, _, _, hO⟩ := hP
       have := k1.told.box.only hO (k1.sep _ (.inl rfl))
       exact ⟨this.cell 0, this.lt⟩
      have hdn : (EE.down : Int) = (flt : Int) := by
       rw [<- uh HEE, Lk.En.vO, NS]
       rfl
      have Qo := hide (Fe b flt e1 d1 wr k1.live h0)
      have HPO := hide (⟨KF, Sj, hdn⟩ : _ ∧ _ ∧ _)
      have h0' : ((flt : Int) != 0) = true := by simp; omega
      have Vq : b < wr.heap.size := k1.live.rw.lt
      clear hF hres hR NS hed k1 HF Qm HLEN HRD KF Sj hdn h0 hcg
      go_wp2_with fail
      refine (uh Qo).mono ?_
      rintro r w4 ⟨rfl, hP⟩
      obtain ⟨p1, p2, p3⟩ := uh HPO
      obtain ⟨q1, q2⟩ := p2 w4 hP
      have jD := hide (⟨p1 w4 hP, p3⟩ : _ ∧ _)
      clear p1 p2 p3 hP
      go_wp2_with fail
      go_ret2
      obtain ⟨p1, p3⟩ := uh jD
      exact ⟨_, by rw [p3]; rfl, p1⟩
theorem Sl (b : Nat) (e : Lk.En) (d : PD) (t : ByteArray) (w : World) (hL : kM w b e d) (hfx : Fx w) (ht : t.size <= 2 ^ 39) :
 Calls Tryz.prog 22 #[.pointer (some ⟨b, 0, none⟩), .string t] w fun r w' => ∃ v, r = .returned (.tuple #[v, .int .i64 ((e.feed t.data.toList).2.down : Int)]) ∧ DJ w b d (e.feed t.data.toList).2 (e.feed t.data.toList).1 v w' := by
 rcases hL with ⟨hL, hdn⟩ | hL
 . exact H9 b e d t w hL hdn hfx ht
 . rw [e.jP t.data.toList hL.dn]
   have c2 : w.cell? ⟨b, 2, none⟩ = some (.int .i64 (e.down : Int)) := hL.rw.blk.cell 2
   refine (H8 b e.down _ w hL.rw.lt c2 hL.dn).mono ?_
   rintro r w' ⟨rfl, k, rfl⟩
   have hO : ∀ S : Nat -> Prop, Only S w (w.drewN k) := fun S => (Only.refl S w).drewN k
   refine ⟨_, rfl, d, [], rfl, (kM.only (.inr hL) (hO (fun _ => False)) (fun _ _ h => h)), Said.nil _ _, fun i hi => ?_, fun i hi => .inl hi, hO _⟩
   rcases hi with hi | ⟨p, hp, _⟩
   . cases hi
   . cases hp
end Go.Proofs.YtbkpdapagfjmmaaGreatDoor

namespace Go.Proofs.YtbkpdapagfjmmaaGreatDoor.Lk
def up2 {α : Type} (f : Nat -> α) (k : Nat) (x : α) : Nat -> α := fun i => if i = k then x else f i
theorem ak {α : Type} (f : Nat -> α) (k : Nat) (x : α) : up2 f k x k = x := by simp [up2]
theorem ae {α : Type} (f : Nat -> α) {k i : Nat} (x : α) (h : i ≠ k) : up2 f k x i = f i := by simp [up2, h]
theorem OT {α : Type} (f : Nat -> α) (k : Nat) : up2 f k (f k) = f := by
 funext i
 unfold up2
 split
 . rename_i h; rw [h]
 . rfl
def zk (e : Nat -> En) (pp : Nat -> Bs) (k : Nat) : Nat := (e k).zm + zs (e k).rest + zs (pp k)
structure ES (e : Nat -> En) (pp : Nat -> Bs) (N : Nat) : Prop where
 wf : ∀ k, k < 2 -> Wf (e k)
 sm : zk e pp 0 + zk e pp 1 <= N
section
variable {e : Nat -> En} {pp : Nat -> Bs} {N k : Nat}
theorem ES.le (h : ES e pp N) (hk : k < 2) : (e k).zm + zs (e k).rest + zs (pp k) <= N := by
 have := h.sm
 have h2 : k = 0 ∨ k = 1 := by omega
 unfold zk at this
 rcases h2 with rfl | rfl <;> omega
theorem ES.later (h : ES e pp N) {M : Nat} (hm : N <= M) : ES e pp M := ⟨h.wf, Nat.le_trans h.sm hm⟩
theorem ES.one (h : ES e pp N) (hk : k < 2) {e' : En} {p' : Bs} {c : Nat} (hw : Wf e') (hc : e'.zm + zs e'.rest + zs p' <= (e k).zm + zs (e k).rest + zs (pp k) + c) : ES (up2 e k e') (up2 pp k p') (N + c) := by
 refine ⟨fun j hj => ?_, ?_⟩
 . by_cases hjk : j = k
   . subst hjk; rw [ak]; exact hw
   . rw [ae _ _ hjk]; exact h.wf j hj
 . have := h.sm
   unfold zk at *
   have h2 : k = 0 ∨ k = 1 := by omega
   rcases h2 with rfl | rfl
   . rw [ak, ak, ae _ _ (by omega), ae _ _ (by omega)]
     omega
   . rw [ak, ak, ae _ _ (by omega), ae _ _ (by omega)]
     omega
theorem ES.call (h : ES e pp N) (hk : k < 2) {e' : En} {c : Nat} (hw : Wf e') (hr : e'.rest = (e k).rest) (hc : e'.zm <= (e k).zm + c) : ES (up2 e k e') pp (N + c) := by
 have := h.one hk (p' := pp k) (c := c) hw (by rw [hr]; omega)
 rw [OT] at this
 exact this
theorem ES.drain (h : ES e pp N) (hk : k < 2) (n : Nat) : ES (up2 e k (En.drain n (e k)).2) (up2 pp k (pp k ++ (En.drain n (e k)).1)) N ∧ (En.drain n (e k)).1.length <= N := by
 have h1 := Fg n (h.wf k hk)
 have h2 := h.le hk
 have h3 := DK (En.drain n (e k)).1
 have hr : (En.drain n (e k)).2.rest = (e k).rest := (wC n (e k)).2.2
 refine ⟨h.one hk (c := 0) (Wf.drain n (h.wf k hk)).1 ?_, by omega⟩
 rw [hr, gm]
 omega
theorem ES.feed (h : ES e pp N) (hk : k < 2) (b : Bs) : ES (up2 e k ((e k).feed b).2) pp (N + (2 * b.length + 10)) := by
 have h1 := Ko (h.wf k hk) b
 have h2 := J8 b
 have := h.one hk (p' := pp k) (c := 2 * b.length + 10) ((h.wf k hk).feed b) (by omega)
 rw [OT] at this
 exact this
theorem ES.move (h : ES e pp N) {j : Nat} (hk : k < 2) (hj : j < 2) (hkj : k ≠ j) (b r : Bs) (hb : pp k = b ++ r) : ES (up2 e j ((e j).feed b).2) (up2 pp k r) (N + 10) := by
 have h1 := Ko (h.wf j hj) b
 have h3 := h.sm
 have hz : zs (pp k) = zs b + zs r := by rw [hb, gm]
 refine ⟨fun i hi => ?_, ?_⟩
 . by_cases hij : i = j
   . subst hij; rw [ak]; exact (h.wf i hj).feed b
   . rw [ae _ _ hij]; exact h.wf i hi
 . unfold zk at *
   have h2 : (k = 0 ∧ j = 1) ∨ (k = 1 ∧ j = 0) := by omega
   rcases h2 with ⟨rfl, rfl⟩ | ⟨rfl, rfl⟩
   . rw [ak, ak, ae _ _ (by omega), ae _ _ (by omega)]
     omega
   . rw [ak, ak, ae _ _ (by omega), ae _ _ (by omega)]
     omega
theorem ES.make (h : ES e pp N) (hk : k < 2) {s w : Nat} (hs : s <= 1) (h1 : 1 <= w) (h2 : w <= 200) : ES (up2 e k (En.new s w)) (up2 pp k []) (N + 12800) :=
 h.one hk (Wf.new hs h1 h2) (by rw [Ku]; show 12800 + zs [] + zs [] <= _; rw [xe]; omega)
theorem ES.start {w : Nat} (h1 : 1 <= w) (h2 : w <= 200) : ES (fun k => En.new k w) (fun _ => []) 25600 := by
 refine ⟨fun k hk => Wf.new (by omega) h1 h2, ?_⟩
 unfold zk
 rw [Ku, Ku]
 have : ∀ k, zs (En.new k w).rest = 0 := fun _ => rfl
 rw [this, this, xe]
 omega
end
end Go.Proofs.YtbkpdapagfjmmaaGreatDoor.Lk
