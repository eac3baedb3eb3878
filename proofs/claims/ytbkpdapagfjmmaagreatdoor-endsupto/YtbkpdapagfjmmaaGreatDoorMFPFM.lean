import Derived.Test.YtbkpdapagfjmmaaGreatDoorMFKFN
import Derived.Test.YtbkpdapagfjmmaaGreatDoorMU1U3
import Derived.Test.YtbkpdapagfjmmaaGreatDoorMSpec21K5
set_option linter.unusedVariables false
set_option maxRecDepth 100000
set_option maxHeartbeats 16000000
namespace Go.Proofs.YtbkpdapagfjmmaaGreatDoor
open Go.RowKit
theorem newOutbound_any (f win : Int) (hw0 : 0 ≤ win) (hw : win ≤ 200) (w : World) :
    Calls Tryz.prog 40 #[.int .i64 f, .int .i64 win] w fun e w' => e = .returned (.agg #[weighV, .int .i64 100, .slice none 0 0, .int .i64 win, .int .i64 f, .int .i64 0, .int .i64 (2 * win), .slice none 0 0]) ∧ Below w.heap.size w w' := by
  have HX := hide (Is.new w 93 [.nilFunc, .int .i64 0, .slice none 0 0, .int .i64 0, .int .i64 0, .int .i64 0, .int .i64 0, .slice none 0 0])
  have HB := hide ((Below.refl w.heap.size w).alloc (Nat.le_refl _) (.cells #[.nilFunc, .int .i64 0, .slice none 0 0, .int .i64 0, .int .i64 0, .int .i64 0, .int .i64 0, .slice none 0 0] 93))
  go_enter Tryz.func40, Tryz.ntmps40
  go_wp2_with fail
  refine (newTable_val _ _).mono ?_
  rintro e w1 ⟨rfl, hb⟩
  have hX1 := (uh HX).below hb (by simp)
  have hbel := (uh HB).trans (hb.mono (by simp))
  have n0 := hX1.cell 0
  have n1 := hX1.cell 1
  have n2 := hX1.cell 2
  have n3 := hX1.cell 3
  have n4 := hX1.cell 4
  have n5 := hX1.cell 5
  have n6 := hX1.cell 6
  have n7 := hX1.cell 7
  have g0 := hX1.free 0
  have g1 := hX1.free 1
  have g2 := hX1.free 2
  have g3 := hX1.free 3
  have g4 := hX1.free 4
  have g5 := hX1.free 5
  have g6 := hX1.free 6
  have g7 := hX1.free 7
  have hl := hX1.lt
  simp only [List.getElem?_cons_zero, List.getElem?_cons_succ] at n0 n1 n2 n3 n4 n5 n6 n7
  clear hb hX1
  go_wp2_with fail
  exact bodyPost_ret (v := .agg #[weighV, .int .i64 100, .slice none 0 0, .int .i64 win, .int .i64 f, .int .i64 0, .int .i64 (2 * win), .slice none 0 0]) (by simp [results, Tryz.results40, go_sem, n0, n1, n2, n3, n4, n5, n6, n7]) rfl ⟨rfl, (((((((hbel.setCell (by simp) _).setCell (by simp) _).setCell (by simp) _).setCell (by simp) _).setCell (by simp) _).setCell (by simp) _).setCell (by simp) _).setCell (by simp) _⟩
theorem newInbound_any (f win : Int) (hw0 : 0 ≤ win) (hw : win ≤ 200) (w : World) :
    Calls Tryz.prog 41 #[.int .i64 f, .int .i64 win] w fun e w' => ∃ m, e = .returned (.agg #[weighV, .int .i64 100, .slice none 0 0, .int .i64 win, .int .i64 f, .int .i64 (2 * win), .map (some m)]) ∧ w.heap.size ≤ m ∧ MapIs Tryz.prog 3 w' m 0 (fun _ => none) ∧ Below w.heap.size w w' := by
  have HX := hide (Is.new w 96 [.nilFunc, .int .i64 0, .slice none 0 0, .int .i64 0, .int .i64 0, .int .i64 0, .map none])
  have HB := hide ((Below.refl w.heap.size w).alloc (Nat.le_refl _) (.cells #[.nilFunc, .int .i64 0, .slice none 0 0, .int .i64 0, .int .i64 0, .int .i64 0, .map none] 96))
  have hmm := @run_makeMap Tryz.prog
  go_enter Tryz.func41, Tryz.ntmps41
  go_wp2_with fail
  refine (newTable_val _ _).mono ?_
  rintro e w1 ⟨rfl, hb⟩
  have hM := MapIs.made Tryz.prog 3 w1
  have hX1 := ((uh HX).below hb (by simp)).alloc (.map #[] 0)
  have hs1 : w.heap.size + 1 ≤ w1.heap.size := by have := hb.size; simpa using this
  have hbel := ((uh HB).trans (hb.mono (by simp))).alloc (by omega) (.map #[] 0)
  have n0 := hX1.cell 0
  have n1 := hX1.cell 1
  have n2 := hX1.cell 2
  have n3 := hX1.cell 3
  have n4 := hX1.cell 4
  have n5 := hX1.cell 5
  have n6 := hX1.cell 6
  have g0 := hX1.free 0
  have g1 := hX1.free 1
  have g2 := hX1.free 2
  have g3 := hX1.free 3
  have g4 := hX1.free 4
  have g5 := hX1.free 5
  have g6 := hX1.free 6
  have hl := hX1.lt
  simp only [List.getElem?_cons_zero, List.getElem?_cons_succ] at n0 n1 n2 n3 n4 n5 n6
  have HM := hide (⟨hM, hbel⟩ : _ ∧ _)
  clear hb hX1 hM hbel
  go_wp2_with fail
  obtain ⟨hM, hbel⟩ := uh HM
  refine bodyPost_ret (v := .agg #[weighV, .int .i64 100, .slice none 0 0, .int .i64 win, .int .i64 f, .int .i64 (2 * win), .map (some w1.heap.size)]) (by simp [results, Tryz.results41, go_sem, n0, n1, n2, n3, n4, n5, n6]) rfl ⟨w1.heap.size, rfl, by omega, ?_, ((((((hbel.setCell (by simp) _).setCell (by simp) _).setCell (by simp) _).setCell (by simp) _).setCell (by simp) _).setCell (by simp) _).setCell (by simp) _⟩
  have hO : ∀ W, Only (· = w.heap.size) (w1.alloc (.map #[] 0)) W → MapIs Tryz.prog 3 W w1.heap.size 0 (fun _ => none) := fun W k => hM.only k (by omega)
  exact hO _ ((((((((Only.refl (· = w.heap.size) _).set w.heap.size 0 _ (fun _ => rfl)).set w.heap.size 1 _ (fun _ => rfl)).set w.heap.size 2 _ (fun _ => rfl)).set w.heap.size 3 _ (fun _ => rfl)).set w.heap.size 4 _ (fun _ => rfl)).set w.heap.size 5 _ (fun _ => rfl)).set w.heap.size 6 _ (fun _ => rfl))
def newD (m : Nat) : PD := ⟨nilS, nilS, nilS, [], [], m, 0, fun _ => .none, []⟩
theorem newD_foot {b m i : Nat} (h : foot b (newD m) i) : i = b ∨ i = m := by
  rcases h with hi | hi | hi | hi | hi | hi | hi | ⟨k, hi⟩
  · exact .inl hi
  · cases hi
  · cases hi
  · cases hi
  · cases hi
  · cases hi
  · exact .inr hi
  · cases hi
theorem new_live {w : World} {b m s win : Nat} (hs : s ≤ 1) (h1 : 1 ≤ win) (h2 : win ≤ 200) (hb : 0 < b) (hm : 0 < m) (hI : Is w b 101 (ecOf (Lk.En.new s win) (newD m)).cells) (hM : MapIs Tryz.prog 3 w m 0 (fun _ => none)) : Live w b (Lk.En.new s win) (newD m) :=
  ⟨⟨hI, Chain.nil w⟩, rfl, by simp [newD], World.ownsRow_nil _ _ _ _, World.ownsRow_nil _ _ _ _, World.ownsRow_nil _ _ _ _, ⟨by simp [upOwn, Lk.En.new, newD], fun i o p ho _ => by simp [upOwn, Lk.En.new] at ho⟩, by simp [newD], by simp [newD], hM, by simp [newD], by simp [Lk.En.new], fun _ _ => rfl, by simp [newD], Lk.Wf.new hs h1 h2, fun i hi => by rcases newD_foot hi with rfl | rfl <;> assumption⟩
theorem new_ok (s win : Nat) (hs : s ≤ 1) (h1 : 1 ≤ win) (h2 : win ≤ 200) (w : World) (hw : 0 < w.heap.size) :
    Calls Tryz.prog 17 #[.int .i64 (s : Int), .int .i64 (win : Int)] w fun e w' => ∃ b d, e = .returned (.tuple #[.pointer (some ⟨b, 0, none⟩), .int .i64 0]) ∧ PEnd w' b (Lk.En.new s win) d ∧ (∀ i, foot b d i → w.heap.size ≤ i) ∧ Below w.heap.size w w' := by
  have hs01 : s = 0 ∨ s = 1 := by omega
  have hw1 : ¬ (win : Int) < 1 := by omega
  have hw2 : ¬ 200 < (win : Int) := by omega
  have HO := hide (newOutbound_any (1 + (s : Int)) win (by omega) (by omega) w)
  have HN := hide (fun w1 => newInbound_any (2 - (s : Int)) win (by omega) (by omega) w1)
  have HS := hide (⟨hs, h1, h2, hw⟩ : _ ∧ _ ∧ _ ∧ _)
  clear h1 h2 hw hs
  rcases hs01 with rfl | rfl
  all_goals
    go_enter Tryz.func17, Tryz.ntmps17
    go_wp2_with fail
    refine (uh HO).mono ?_
    rintro r w1 ⟨rfl, hb1⟩
    go_wp2_with fail
    refine (uh HN w1).mono ?_
    rintro r w2 ⟨m, rfl, hm, hM, hb2⟩
    have HX := hide (⟨hb1, hm, hM, hb2⟩ : _ ∧ _ ∧ _ ∧ _)
    clear hb1 hm hM hb2
    go_wp2_with fail
    go_ret2
    obtain ⟨hb1, hm, hM, hb2⟩ := uh HX
    obtain ⟨hs, h1, h2, hw⟩ := uh HS
    have s1 := hb1.size
    have s2 := hb2.size
    refine ⟨w2.heap.size, newD m, rfl, .inl ⟨new_live hs h1 h2 (by omega) (by omega) (Is.new w2 101 _) (hM.only ((Only.refl (fun _ => False) w2).alloc _) (fun h => h)), rfl⟩, fun i hi => ?_, (hb1.trans (hb2.mono hb1.size)).alloc (by omega) _⟩
    rcases newD_foot hi with rfl | rfl <;> omega
end Go.Proofs.YtbkpdapagfjmmaaGreatDoor

namespace Go.Proofs.YtbkpdapagfjmmaaGreatDoor
open Go.RowKit
def newBad (s n : Int) : Prop := (s ≠ 0 ∧ s ≠ 1) ∨ n < 1 ∨ 200 < n
theorem newBad_not {s n : Int} (h : ¬ newBad s n) : ∃ (a b : Nat), s = a ∧ n = b ∧ a ≤ 1 ∧ 1 ≤ b ∧ b ≤ 200 := by
  unfold newBad at h
  exact ⟨s.toNat, n.toNat, by omega, by omega, by omega, by omega, by omega⟩
theorem new_bad (s n : Int) (h : newBad s n) (w : World) : Calls Tryz.prog 17 #[.int .i64 s, .int .i64 n] w fun e w' => e = .returned (.tuple #[.pointer none, .int .i64 1]) ∧ w' = w := by
  unfold newBad at h
  by_cases h1 : s ≠ 0 ∧ s ≠ 1
  · obtain ⟨h1, h2⟩ := h1
    clear h
    go_enter Tryz.func17, Tryz.ntmps17
    go_wp2_with fail
    go_ret2
    exact ⟨rfl, rfl⟩
  · have h01 : s = 0 ∨ s = 1 := by omega
    by_cases h2 : n < 1
    · clear h h1
      rcases h01 with rfl | rfl
      all_goals
        go_enter Tryz.func17, Tryz.ntmps17
        go_wp2_with fail
        go_ret2
        exact ⟨rfl, rfl⟩
    · have h3 : 200 < n := by omega
      clear h h1
      rcases h01 with rfl | rfl
      all_goals
        go_enter Tryz.func17, Tryz.ntmps17
        go_wp2_with fail
        go_ret2
        exact ⟨rfl, rfl⟩
theorem rnew_bad (s n : Int) (h : newBad s n) (w : World) : Calls Tryz.prog 54 #[.int .i64 s, .int .i64 n] w fun e w' => e = .returned (.tuple #[.pointer none, .int .i64 1]) ∧ w' = w := by
  unfold newBad at h
  by_cases h1 : s ≠ 0 ∧ s ≠ 1
  · obtain ⟨h1, h2⟩ := h1
    clear h
    go_enter Tryz.func54, Tryz.ntmps54
    go_wp2_with fail
    go_ret2
    exact ⟨rfl, rfl⟩
  · have h01 : s = 0 ∨ s = 1 := by omega
    by_cases h2 : n < 1
    · clear h h1
      rcases h01 with rfl | rfl
      all_goals
        go_enter Tryz.func54, Tryz.ntmps54
        go_wp2_with fail
        go_ret2
        exact ⟨rfl, rfl⟩
    · have h3 : 200 < n := by omega
      clear h h1
      rcases h01 with rfl | rfl
      all_goals
        go_enter Tryz.func54, Tryz.ntmps54
        go_wp2_with fail
        go_ret2
        exact ⟨rfl, rfl⟩
def newP (b : Nat) : RP := ⟨b + 1, b + 2, b + 3, nilS, nilS, nilS, nilS, nilS⟩
theorem rnew_lies (w : World) (s win : Nat) : REnd True ((((w.alloc (.cells (reCells (Lk.En.new s win) (newP w.heap.size)).toArray 200)).alloc (.cells #[.int .i64 100, .slice none 0 0] 196)).alloc (.cells #[.int .i64 100, .slice none 0 0] 196)).alloc (.cells #[.string ⟨#[]⟩, .int .i64 0] 54)) w.heap.size (Lk.En.new s win) (newP w.heap.size) := by
  have h0 := Is.new w 200 (reCells (Lk.En.new s win) (newP w.heap.size))
  have hsz : (w.alloc (.cells (reCells (Lk.En.new s win) (newP w.heap.size)).toArray 200)).heap.size = w.heap.size + 1 := World.size_alloc _ _
  generalize w.alloc (.cells (reCells (Lk.En.new s win) (newP w.heap.size)).toArray 200) = w1 at *
  have h1 := Is.new w1 196 [.int .i64 100, nilS]
  have h2 := Is.new (w1.alloc (.cells #[.int .i64 100, .slice none 0 0] 196)) 196 [.int .i64 100, nilS]
  have h3 := Is.new ((w1.alloc (.cells #[.int .i64 100, .slice none 0 0] 196)).alloc (.cells #[.int .i64 100, .slice none 0 0] 196)) 54 [.string ⟨#[]⟩, .int .i64 0]
  rw [World.size_alloc, hsz] at h2
  rw [World.size_alloc, World.size_alloc, hsz] at h3
  rw [hsz] at h1
  refine ⟨((h0.alloc _).alloc _).alloc _, ⟨(h1.alloc _).alloc _, World.ownsRow_nil _ _ _ _, by simp [Lk.En.new, Lk.weights], by omega⟩, ⟨h2.alloc _, World.ownsRow_nil _ _ _ _, by simp [Lk.En.new, Lk.weights], by omega⟩, ⟨⟨#[]⟩, 0, h3, fun _ _ => ⟨rfl, rfl⟩⟩, QRow.nil _, World.ownsRow_nil _ _ _ _, World.ownsRow_nil _ _ _ _, ?_, .inl rfl⟩
  show w.heap.size + 1 ≠ w.heap.size + 2
  omega
theorem rnew_ok (s win : Nat) (hs : s ≤ 1) (h1 : 1 ≤ win) (h2 : win ≤ 200) (w : World) :
    Calls Tryz.prog 54 #[.int .i64 (s : Int), .int .i64 (win : Int)] w fun e w' => ∃ b p, e = .returned (.tuple #[.pointer (some ⟨b, 0, none⟩), .int .i64 0]) ∧ REnd True w' b (Lk.En.new s win) p ∧ (∀ i, rfoot b p i → w.heap.size ≤ i) ∧ Below w.heap.size w w' := by
  have hs01 : s = 0 ∨ s = 1 := by omega
  have hw1 : ¬ (win : Int) < 1 := by omega
  have hw2 : ¬ 200 < (win : Int) := by omega
  have HS := hide (⟨hs, h1, h2⟩ : _ ∧ _ ∧ _)
  have hwb : (win : Int) ≤ 200 := by omega
  have hw0 : (1 : Int) ≤ win := by omega
  clear h1 h2 hs
  rcases hs01 with rfl | rfl
  all_goals
    go_enter Tryz.func54, Tryz.ntmps54
    go_wp2_with fail
    go_ret2
    refine ⟨w.heap.size, rfl, newP w.heap.size, ?_, fun i hi => ?_, ?_⟩
    · first
      | (have h := rnew_lies w 0 win
         simp only [reCells, Lk.En.new, newP, ptr] at h
         simpa [newP, Lk.En.new, ptr] using h)
      | (have h := rnew_lies w 1 win
         simp only [reCells, Lk.En.new, newP, ptr] at h
         simpa [newP, Lk.En.new, ptr] using h)
    · rcases hi with hi | hi | hi | hi | hi | hi | hi | hi | hi
      · omega
      · have hi : i = w.heap.size + 1 := hi
        omega
      · have hi : i = w.heap.size + 2 := hi
        omega
      · have hi : i = w.heap.size + 3 := hi
        omega
      all_goals cases hi
    · exact ((((Below.refl w.heap.size w).alloc (Nat.le_refl _) _).alloc (by simp) _).alloc (by simp; omega) _).alloc (by simp; omega) _
end Go.Proofs.YtbkpdapagfjmmaaGreatDoor

namespace Go.Proofs.YtbkpdapagfjmmaaGreatDoor
open Go.RowKit
namespace Lk
theorem En.back_down (e : En) (n : Nat) : (e.back n).down = e.down := by unfold En.back; split <;> rfl
theorem En.pingC_down (e : En) (t : Bs) : (e.pingC t).2.down = e.down := by unfold En.pingC; split <;> (try split) <;> rfl
theorem En.byeC_down (e : En) : e.byeC'.2.down = e.down := by unfold En.byeC'; split <;> (try split) <;> rfl
theorem En.submitC_down (e : En) (l : List Hd) (t : Bs) : (e.submitC l t).2.down = e.down := by
  unfold En.submitC
  split
  · rfl
  · split
    · rfl
    · split
      · rfl
      · split
        · rfl
        · split <;> rfl
theorem En.consumeC_down (e : En) (k n : Int) : (e.consumeC k n).2.down = e.down := by
  unfold En.consumeC
  split
  · rfl
  · split
    · rfl
    · split
      · rfl
      · split
        · rfl
        · split
          · rfl
          · simp only
            split <;> rfl
theorem En.resetC_down (e : En) (k n : Int) : (e.resetC k n).2.down = e.down := by
  unfold En.resetC
  split
  · rfl
  · split
    · rfl
    · split
      · rfl
      · split
        · simp only
          rw [En.back_down]
          rfl
        · rfl
end Lk
theorem Fallen.c2 {w : World} {b : Nat} {e : Lk.En} {d : PD} (h : Fallen w b e d) : w.cell? ⟨b, 2, .none⟩ = some (.int .i64 (e.down : Int)) := h.rw.blk.cell 2
theorem dn_bool {n : Nat} (h : n ≠ 0) : ((n : Int) != 0) = true := by simp; omega
theorem ping_dn (b : Nat) (n : Nat) (t : Value) (w : World) (hb : b < w.heap.size) (c2 : w.cell? ⟨b, 2, none⟩ = some (.int .i64 (n : Int))) (hn : n ≠ 0) :
    Calls Tryz.prog 33 #[.pointer (some ⟨b, 0, none⟩), t] w fun r w' => r = .returned (.int .i64 13) ∧ w' = w := by
  have HD := hide (down_any b n w hb c2)
  rw [dn_bool hn] at HD
  clear hn
  go_enter Tryz.func33, Tryz.ntmps33
  go_wp2_with fail
  refine (uh HD).mono ?_
  rintro r w1 ⟨rfl, rfl⟩
  go_wp2_with fail
  go_ret
  exact ⟨rfl, rfl⟩
theorem bye_dn (b : Nat) (n : Nat) (w : World) (hb : b < w.heap.size) (c2 : w.cell? ⟨b, 2, none⟩ = some (.int .i64 (n : Int))) (hn : n ≠ 0) :
    Calls Tryz.prog 34 #[.pointer (some ⟨b, 0, none⟩)] w fun r w' => r = .returned (.int .i64 13) ∧ w' = w := by
  have HD := hide (down_any b n w hb c2)
  rw [dn_bool hn] at HD
  clear hn
  go_enter Tryz.func34, Tryz.ntmps34
  go_wp2_with fail
  refine (uh HD).mono ?_
  rintro r w1 ⟨rfl, rfl⟩
  go_wp2_with fail
  go_ret
  exact ⟨rfl, rfl⟩
theorem consume_dn (b : Nat) (n : Nat) (k m : Int) (w : World) (hb : b < w.heap.size) (c2 : w.cell? ⟨b, 2, none⟩ = some (.int .i64 (n : Int))) (hn : n ≠ 0) :
    Calls Tryz.prog 31 #[.pointer (some ⟨b, 0, none⟩), .int .i64 k, .int .i64 m] w fun r w' => r = .returned (.int .i64 13) ∧ w' = w := by
  have HD := hide (down_any b n w hb c2)
  rw [dn_bool hn] at HD
  clear hn
  go_enter Tryz.func31, Tryz.ntmps31
  go_wp2_with fail
  refine (uh HD).mono ?_
  rintro r w1 ⟨rfl, rfl⟩
  go_wp2_with fail
  go_ret
  exact ⟨rfl, rfl⟩
theorem reset_dn (b : Nat) (n : Nat) (k m : Int) (w : World) (hb : b < w.heap.size) (c2 : w.cell? ⟨b, 2, none⟩ = some (.int .i64 (n : Int))) (hn : n ≠ 0) :
    Calls Tryz.prog 69 #[.pointer (some ⟨b, 0, none⟩), .int .i64 k, .int .i64 m] w fun r w' => r = .returned (.int .i64 13) ∧ w' = w := by
  have HD := hide (down_any b n w hb c2)
  rw [dn_bool hn] at HD
  clear hn
  go_enter Tryz.func69, Tryz.ntmps69
  go_wp2_with fail
  refine (uh HD).mono ?_
  rintro r w1 ⟨rfl, rfl⟩
  go_wp2_with fail
  go_ret
  exact ⟨rfl, rfl⟩
theorem submit_dn (b : Nat) (n : Nat) (lv body : Value) (w : World) (hb : b < w.heap.size) (c2 : w.cell? ⟨b, 2, none⟩ = some (.int .i64 (n : Int))) (hn : n ≠ 0) :
    Calls Tryz.prog 19 #[.pointer (some ⟨b, 0, none⟩), lv, body] w fun r w' => r = .returned (.tuple #[.int .i64 0, .int .i64 13, .int .i64 0]) ∧ w' = w := by
  have HD := hide (down_any b n w hb c2)
  rw [dn_bool hn] at HD
  clear hn
  go_enter Tryz.func19, Tryz.ntmps19
  go_wp2_with fail
  refine (uh HD).mono ?_
  rintro r w1 ⟨rfl, rfl⟩
  go_wp2_with fail
  go_ret3
  exact ⟨rfl, rfl⟩
theorem ping_p (b : Nat) (e : Lk.En) (d : PD) (t : ByteArray) (w : World) (hL : PEnd w b e d) :
    Calls Tryz.prog 33 #[.pointer (some ⟨b, 0, none⟩), .string t] w fun r w' => r = .returned (.int .i64 ((e.pingC t.data.toList).1 : Int)) ∧ PPost w b d (e.pingC t.data.toList).2 w' := by
  rcases hL with ⟨hL, hdn⟩ | hL
  · exact (ping_any b e d t w hL hdn).mono fun r w' h => ⟨h.1, h.2.toP ((Lk.En.pingC_down _ _).trans hdn)⟩
  · have : e.pingC t.data.toList = (13, e) := by unfold Lk.En.pingC; rw [if_pos hL.dn]
    rw [this]
    exact (ping_dn b e.down _ w hL.rw.lt hL.c2 hL.dn).mono fun r w' h => ⟨h.1, by rw [h.2]; exact PPost.same (.inr hL)⟩
theorem bye_p (b : Nat) (e : Lk.En) (d : PD) (w : World) (hL : PEnd w b e d) :
    Calls Tryz.prog 34 #[.pointer (some ⟨b, 0, none⟩)] w fun r w' => r = .returned (.int .i64 (e.byeC'.1 : Int)) ∧ PPost w b d e.byeC'.2 w' := by
  rcases hL with ⟨hL, hdn⟩ | hL
  · exact (bye_any b e d w hL hdn).mono fun r w' h => ⟨h.1, h.2.toP ((Lk.En.byeC_down _).trans hdn)⟩
  · have : e.byeC' = (13, e) := by unfold Lk.En.byeC'; rw [if_pos hL.dn]
    rw [this]
    exact (bye_dn b e.down w hL.rw.lt hL.c2 hL.dn).mono fun r w' h => ⟨h.1, by rw [h.2]; exact PPost.same (.inr hL)⟩
theorem consume_p (b : Nat) (e : Lk.En) (d : PD) (k n : Int) (w : World) (hL : PEnd w b e d) (hk : I64 k) :
    Calls Tryz.prog 31 #[.pointer (some ⟨b, 0, none⟩), .int .i64 k, .int .i64 n] w fun r w' => r = .returned (.int .i64 ((e.consumeC k n).1 : Int)) ∧ PPost w b d (e.consumeC k n).2 w' := by
  rcases hL with ⟨hL, hdn⟩ | hL
  · exact (consume_any b e d k n w hL hdn hk).mono fun r w' h => ⟨h.1, h.2.toP ((Lk.En.consumeC_down _ _ _).trans hdn)⟩
  · have : e.consumeC k n = (13, e) := by unfold Lk.En.consumeC; rw [if_pos hL.dn]
    rw [this]
    exact (consume_dn b e.down _ _ w hL.rw.lt hL.c2 hL.dn).mono fun r w' h => ⟨h.1, by rw [h.2]; exact PPost.same (.inr hL)⟩
theorem reset_p (b : Nat) (e : Lk.En) (d : PD) (k n : Int) (w : World) (hL : PEnd w b e d) (hk : I64 k) :
    Calls Tryz.prog 69 #[.pointer (some ⟨b, 0, none⟩), .int .i64 k, .int .i64 n] w fun r w' => r = .returned (.int .i64 ((e.resetC k n).1 : Int)) ∧ PPost w b d (e.resetC k n).2 w' := by
  rcases hL with ⟨hL, hdn⟩ | hL
  · exact (reset_any b e d k n w hL hdn hk).mono fun r w' h => ⟨h.1, h.2.toP ((Lk.En.resetC_down _ _ _).trans hdn)⟩
  · have : e.resetC k n = (13, e) := by unfold Lk.En.resetC; rw [if_pos hL.dn]
    rw [this]
    exact (reset_dn b e.down _ _ w hL.rw.lt hL.c2 hL.dn).mono fun r w' h => ⟨h.1, by rw [h.2]; exact PPost.same (.inr hL)⟩
theorem submit_p (b B1 : Nat) (e : Lk.En) (d : PD) (l : List Lk.Hd) (lv : Value) (body : ByteArray) (w : World) (hL : PEnd w b e d) (hfx : Fx w) (own : w.ownsRow B1 112 2 lv l.length (hdsV l)) :
    Calls Tryz.prog 19 #[.pointer (some ⟨b, 0, none⟩), lv, .string body] w fun r w' => r = .returned (.tuple #[.int .i64 ((e.submitC l body.data.toList).1.1 : Int), .int .i64 ((e.submitC l body.data.toList).1.2.1 : Int), .int .i64 ((e.submitC l body.data.toList).1.2.2 : Int)]) ∧ PPost w b d (e.submitC l body.data.toList).2 w' := by
  rcases hL with ⟨hL, hdn⟩ | hL
  · exact (submit_any b B1 e d l lv body w hL hdn hfx own).mono fun r w' h => ⟨h.1, h.2.toP ((Lk.En.submitC_down _ _ _).trans hdn)⟩
  · have : e.submitC l body.data.toList = ((0, 13, 0), e) := by unfold Lk.En.submitC; rw [if_pos hL.dn]
    rw [this]
    exact (submit_dn b e.down _ _ w hL.rw.lt hL.c2 hL.dn).mono fun r w' h => ⟨h.1, by rw [h.2]; exact PPost.same (.inr hL)⟩
end Go.Proofs.YtbkpdapagfjmmaaGreatDoor
