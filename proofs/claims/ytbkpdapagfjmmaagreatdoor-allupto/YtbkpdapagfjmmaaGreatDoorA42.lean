import Derived.Test.YtbkpdapagfjmmaaGreatDoorA40
set_option linter.unusedVariables false
set_option maxRecDepth 100000
set_option maxHeartbeats 16000000
namespace Go.Proofs.YtbkpdapagfjmmaaGreatDoor
open Go.RowKit
theorem uA (f win : Int) (hw0 : 0 <= win) (hw : win <= 200) (w : World) :
 Calls Tryz.prog 40 #[.int .i64 f, .int .i64 win] w fun e w' => e = .returned (.agg #[aU, .int .i64 100, .slice none 0 0, .int .i64 win, .int .i64 f, .int .i64 0, .int .i64 (2 * win), .slice none 0 0]) ∧ Below w.heap.size w w' := by
 have HX := hide (Is.new w 93 [.nilFunc, .int .i64 0, .slice none 0 0, .int .i64 0, .int .i64 0, .int .i64 0, .int .i64 0, .slice none 0 0])
 have HB := hide ((Below.refl w.heap.size w).alloc (Nat.le_refl _) (.cells #[.nilFunc, .int .i64 0, .slice none 0 0, .int .i64 0, .int .i64 0, .int .i64 0, .int .i64 0, .slice none 0 0] 93))
 go_enter Tryz.func40, Tryz.ntmps40
 go_wp2_with fail
 refine (lI _ _).mono ?_
 rintro e w1 ⟨rfl, hb⟩
 have hX1 := (uh HX).below hb (by simp)
 have hbel := (uh HB).trans (hb.mono (by simp))
 have n0 := hX1.cell 0
 have n1 := hX1.cell 1
 have n2 := hX1.cell 2
 have n3 := hX1.cell 3
 have n4 := hX1.cell 4
 have n5 := hX1.cell 5
 have n6 := hX1.cell 6
 have n7 := hX1.cell 7
 have g0 := hX1.free 0
 have g1 := hX1.free 1
 have g2 := hX1.free 2
 have g3 := hX1.free 3
 have g4 := hX1.free 4
 have g5 := hX1.free 5
 have g6 := hX1.free 6
 have g7 := hX1.free 7
 have hl := hX1.lt
 simp only [List.getElem?_cons_zero, List.getElem?_cons_succ] at n0 n1 n2 n3 n4 n5 n6 n7
 clear hb hX1
 go_wp2_with fail
 exact bodyPost_ret (v := .agg #[aU, .int .i64 100, .slice none 0 0, .int .i64 win, .int .i64 f, .int .i64 0, .int .i64 (2 * win), .slice none 0 0]) (by simp [results, Tryz.results40, go_sem, n0, n1, n2, n3, n4, n5, n6, n7]) rfl ⟨rfl, (((((((hbel.setCell (by simp) _).setCell (by simp) _).setCell (by simp) _).setCell (by simp) _).setCell (by simp) _).setCell (by simp) _).setCell (by simp) _).setCell (by simp) _⟩
theorem uZ (f win : Int) (hw0 : 0 <= win) (hw : win <= 200) (w : World) :
 Calls Tryz.prog 41 #[.int .i64 f, .int .i64 win] w fun e w' => ∃ m, e = .returned (.agg #[aU, .int .i64 100, .slice none 0 0, .int .i64 win, .int .i64 f, .int .i64 (2 * win), .map (some m)]) ∧ w.heap.size <= m ∧ bW Tryz.prog 3 w' m 0 (fun _ => none) ∧ Below w.heap.size w w' := by
 have HX := hide (Is.new w 96 [.nilFunc, .int .i64 0, .slice none 0 0, .int .i64 0, .int .i64 0, .int .i64 0, .map none])
 have HB := hide ((Below.refl w.heap.size w).alloc (Nat.le_refl _) (.cells #[.nilFunc, .int .i64 0, .slice none 0 0, .int .i64 0, .int .i64 0, .int .i64 0, .map none] 96))
 have hmm := @run_makeMap Tryz.prog
 go_enter Tryz.func41, Tryz.ntmps41
 go_wp2_with fail
 refine (lI _ _).mono ?_
 rintro e w1 ⟨rfl, hb⟩
 have hM := bW.made Tryz.prog 3 w1
 have hX1 := ((uh HX).below hb (by simp)).alloc (.map #[] 0)
 have hs1 : w.heap.size + 1 <= w1.heap.size := by have := hb.size; simpa using this
 have hbel := ((uh HB).trans (hb.mono (by simp))).alloc (by omega) (.map #[] 0)
 have n0 := hX1.cell 0
 have n1 := hX1.cell 1
 have n2 := hX1.cell 2
 have n3 := hX1.cell 3
 have n4 := hX1.cell 4
 have n5 := hX1.cell 5
 have n6 := hX1.cell 6
 have g0 := hX1.free 0
 have g1 := hX1.free 1
 have g2 := hX1.free 2
 have g3 := hX1.free 3
 have g4 := hX1.free 4
 have g5 := hX1.free 5
 have g6 := hX1.free 6
 have hl := hX1.lt
 simp only [List.getElem?_cons_zero, List.getElem?_cons_succ] at n0 n1 n2 n3 n4 n5 n6
 have HM := hide (⟨hM, hbel⟩ : _ ∧ _)
 clear hb hX1 hM hbel
 go_wp2_with fail
 obtain ⟨hM, hbel⟩ := uh HM
 refine bodyPost_ret (v := .agg #[aU, .int .i64 100, .slice none 0 0, .int .i64 win, .int .i64 f, .int .i64 (2 * win), .map (some w1.heap.size)]) (by simp [results, Tryz.results41, go_sem, n0, n1, n2, n3, n4, n5, n6]) rfl ⟨w1.heap.size, rfl, by omega, ?_, ((((((hbel.setCell (by simp) _).setCell (by simp) _).setCell (by simp) _).setCell (by simp) _).setCell (by simp) _).setCell (by simp) _).setCell (by simp) _⟩
 have hO : ∀ W, Only (· = w.heap.size) (w1.alloc (.map #[] 0)) W -> bW Tryz.prog 3 W w1.heap.size 0 (fun _ => none) := fun W k => hM.only k (by omega)
 exact hO _ ((((((((Only.refl (· = w.heap.size) _).set w.heap.size 0 _ (fun _ => rfl)).set w.heap.size 1 _ (fun _ => rfl)).set w.heap.size 2 _ (fun _ => rfl)).set w.heap.size 3 _ (fun _ => rfl)).set w.heap.size 4 _ (fun _ => rfl)).set w.heap.size 5 _ (fun _ => rfl)).set w.heap.size 6 _ (fun _ => rfl))
def BD (m : Nat) : PD := ⟨gQ, gQ, gQ, [], [], m, 0, fun _ => .none, []⟩
theorem Bc {b m i : Nat} (h : foot b (BD m) i) : i = b ∨ i = m := by
 rcases h with hi | hi | hi | hi | hi | hi | hi | ⟨k, hi⟩
 . exact .inl hi
 . cases hi
 . cases hi
 . cases hi
 . cases hi
 . cases hi
 . exact .inr hi
 . cases hi
theorem NL {w : World} {b m s win : Nat} (hs : s <= 1) (h1 : 1 <= win) (h2 : win <= 200) (hb : 0 < b) (hm : 0 < m) (hI : Is w b 101 (fH (Lk.En.new s win) (BD m)).cells) (hM : bW Tryz.prog 3 w m 0 (fun _ => none)) : Live w b (Lk.En.new s win) (BD m) :=
 ⟨⟨hI, Chain.nil w⟩, rfl, by simp [BD], World.ownsRow_nil _ _ _ _, World.ownsRow_nil _ _ _ _, World.ownsRow_nil _ _ _ _, ⟨by simp [gJ, Lk.En.new, BD], fun i o p ho _ => by simp [gJ, Lk.En.new] at ho⟩, by simp [BD], by simp [BD], hM, by simp [BD], by simp [Lk.En.new], fun _ _ => rfl, by simp [BD], Lk.Wf.new hs h1 h2, fun i hi => by rcases Bc hi with rfl | rfl <;> assumption⟩
theorem OQ (s win : Nat) (hs : s <= 1) (h1 : 1 <= win) (h2 : win <= 200) (w : World) (hw : 0 < w.heap.size) :
 Calls Tryz.prog 17 #[.int .i64 (s : Int), .int .i64 (win : Int)] w fun e w' => ∃ b d, e = .returned (.tuple #[.pointer (some ⟨b, 0, none⟩), .int .i64 0]) ∧ kM w' b (Lk.En.new s win) d ∧ (∀ i, foot b d i -> w.heap.size <= i) ∧ Below w.heap.size w w' := by
 have Uy : s = 0 ∨ s = 1 := by omega
 have hw1 : ¬ (win : Int) < 1 := by omega
 have hw2 : ¬ 200 < (win : Int) := by omega
 have HO := hide (uA (1 + (s : Int)) win (by omega) (by omega) w)
 have HN := hide (fun w1 => uZ (2 - (s : Int)) win (by omega) (by omega) w1)
 have HS := hide (⟨hs, h1, h2, hw⟩ : _ ∧ _ ∧ _ ∧ _)
 clear h1 h2 hw hs
 rcases Uy with rfl | rfl
 all_goals
  go_enter Tryz.func17, Tryz.ntmps17
  go_wp2_with fail
  refine (uh HO).mono ?_
  rintro r w1 ⟨rfl, hb1⟩
  go_wp2_with fail
  refine (uh HN w1).mono ?_
  rintro r w2 ⟨m, rfl, hm, hM, hb2⟩
  have HX := hide (⟨hb1, hm, hM, hb2⟩ : _ ∧ _ ∧ _ ∧ _)
  clear hb1 hm hM hb2
  go_wp2_with fail
  go_ret2
  obtain ⟨hb1, hm, hM, hb2⟩ := uh HX
  obtain ⟨hs, h1, h2, hw⟩ := uh HS
  have s1 := hb1.size
  have s2 := hb2.size
  refine ⟨w2.heap.size, BD m, rfl, .inl ⟨NL hs h1 h2 (by omega) (by omega) (Is.new w2 101 _) (hM.only ((Only.refl (fun _ => False) w2).alloc _) (fun h => h)), rfl⟩, fun i hi => ?_, (hb1.trans (hb2.mono hb1.size)).alloc (by omega) _⟩
  rcases Bc hi with rfl | rfl <;> omega
def qJ (s n : Int) : Prop := (s ≠ 0 ∧ s ≠ 1) ∨ n < 1 ∨ 200 < n
theorem H5 {s n : Int} (h : ¬ qJ s n) : ∃ (a b : Nat), s = a ∧ n = b ∧ a <= 1 ∧ 1 <= b ∧ b <= 200 := by
 unfold qJ at h
 exact ⟨s.toNat, n.toNat, by omega, by omega, by omega, by omega, by omega⟩
theorem Qj (s n : Int) (h : qJ s n) (w : World) : Calls Tryz.prog 17 #[.int .i64 s, .int .i64 n] w fun e w' => e = .returned (.tuple #[.pointer none, .int .i64 1]) ∧ w' = w := by
 unfold qJ at h
 by_cases h1 : s ≠ 0 ∧ s ≠ 1
 . obtain ⟨h1, h2⟩ := h1
   clear h
   go_enter Tryz.func17, Tryz.ntmps17
   go_wp2_with fail
   go_ret2
   exact ⟨rfl, rfl⟩
 . have h01 : s = 0 ∨ s = 1 := by omega
   by_cases h2 : n < 1
   . clear h h1
     rcases h01 with rfl | rfl
     all_goals
      go_enter Tryz.func17, Tryz.ntmps17
      go_wp2_with fail
      go_ret2
      exact ⟨rfl, rfl⟩
   . have h3 : 200 < n := by omega
     clear h h1
     rcases h01 with rfl | rfl
     all_goals
      go_enter Tryz.func17, Tryz.ntmps17
      go_wp2_with fail
      go_ret2
      exact ⟨rfl, rfl⟩
theorem NM (s n : Int) (h : qJ s n) (w : World) : Calls Tryz.prog 54 #[.int .i64 s, .int .i64 n] w fun e w' => e = .returned (.tuple #[.pointer none, .int .i64 1]) ∧ w' = w := by
 unfold qJ at h
 by_cases h1 : s ≠ 0 ∧ s ≠ 1
 . obtain ⟨h1, h2⟩ := h1
   clear h
   go_enter Tryz.func54, Tryz.ntmps54
   go_wp2_with fail
   go_ret2
   exact ⟨rfl, rfl⟩
 . have h01 : s = 0 ∨ s = 1 := by omega
   by_cases h2 : n < 1
   . clear h h1
     rcases h01 with rfl | rfl
     all_goals
      go_enter Tryz.func54, Tryz.ntmps54
      go_wp2_with fail
      go_ret2
      exact ⟨rfl, rfl⟩
   . have h3 : 200 < n := by omega
     clear h h1
     rcases h01 with rfl | rfl
     all_goals
      go_enter Tryz.func54, Tryz.ntmps54
      go_wp2_with fail
      go_ret2
      exact ⟨rfl, rfl⟩
def BF (b : Nat) : RP := ⟨b + 1, b + 2, b + 3, gQ, gQ, gQ, gQ, gQ⟩
theorem Bd (w : World) (s win : Nat) : aT True ((((w.alloc (.cells (jo (Lk.En.new s win) (BF w.heap.size)).toArray 200)).alloc (.cells #[.int .i64 100, .slice none 0 0] 196)).alloc (.cells #[.int .i64 100, .slice none 0 0] 196)).alloc (.cells #[.string ⟨#[]⟩, .int .i64 0] 54)) w.heap.size (Lk.En.new s win) (BF w.heap.size) := by
 have h0 := Is.new w 200 (jo (Lk.En.new s win) (BF w.heap.size))
 have hsz : (w.alloc (.cells (jo (Lk.En.new s win) (BF w.heap.size)).toArray 200)).heap.size = w.heap.size + 1 := World.size_alloc _ _
 generalize w.alloc (.cells (jo (Lk.En.new s win) (BF w.heap.size)).toArray 200) = w1 at *
 have h1 := Is.new w1 196 [.int .i64 100, gQ]
 have h2 := Is.new (w1.alloc (.cells #[.int .i64 100, .slice none 0 0] 196)) 196 [.int .i64 100, gQ]
 have h3 := Is.new ((w1.alloc (.cells #[.int .i64 100, .slice none 0 0] 196)).alloc (.cells #[.int .i64 100, .slice none 0 0] 196)) 54 [.string ⟨#[]⟩, .int .i64 0]
 rw [World.size_alloc, hsz] at h2
 rw [World.size_alloc, World.size_alloc, hsz] at h3
 rw [hsz] at h1
 refine ⟨((h0.alloc _).alloc _).alloc _, ⟨(h1.alloc _).alloc _, World.ownsRow_nil _ _ _ _, by simp [Lk.En.new, Lk.weights], by omega⟩, ⟨h2.alloc _, World.ownsRow_nil _ _ _ _, by simp [Lk.En.new, Lk.weights], by omega⟩, ⟨⟨#[]⟩, 0, h3, fun _ _ => ⟨rfl, rfl⟩⟩, nY.nil _, World.ownsRow_nil _ _ _ _, World.ownsRow_nil _ _ _ _, ?_, .inl rfl⟩
 show w.heap.size + 1 ≠ w.heap.size + 2
 omega
theorem Ky (s win : Nat) (hs : s <= 1) (h1 : 1 <= win) (h2 : win <= 200) (w : World) :
 Calls Tryz.prog 54 #[.int .i64 (s : Int), .int .i64 (win : Int)] w fun e w' => ∃ b p, e = .returned (.tuple #[.pointer (some ⟨b, 0, none⟩), .int .i64 0]) ∧ aT True w' b (Lk.En.new s win) p ∧ (∀ i, aI b p i -> w.heap.size <= i) ∧ Below w.heap.size w w' := by
 have Uy : s = 0 ∨ s = 1 := by omega
 have hw1 : ¬ (win : Int) < 1 := by omega
 have hw2 : ¬ 200 < (win : Int) := by omega
 have HS := hide (⟨hs, h1, h2⟩ : _ ∧ _ ∧ _)
 have hwb : (win : Int) <= 200 := by omega
 have hw0 : (1 : Int) <= win := by omega
 clear h1 h2 hs
 rcases Uy with rfl | rfl
 all_goals
  go_enter Tryz.func54, Tryz.ntmps54
  go_wp2_with fail
  go_ret2
  refine ⟨w.heap.size, rfl, BF w.heap.size, ?_, fun i hi => ?_, ?_⟩
  . first
    | (have h := Bd w 0 win
       simp only [jo, Lk.En.new, BF, ptr] at h
       simpa [BF, Lk.En.new, ptr] using h)
    | (have h := Bd w 1 win
       simp only [jo, Lk.En.new, BF, ptr] at h
       simpa [BF, Lk.En.new, ptr] using h)
  . rcases hi with hi | hi | hi | hi | hi | hi | hi | hi | hi
    . omega
    . have hi : i = w.heap.size + 1 := hi
      omega
    . have hi : i = w.heap.size + 2 := hi
      omega
    . have hi : i = w.heap.size + 3 := hi
      omega
    all_goals cases hi
  . exact ((((Below.refl w.heap.size w).alloc (Nat.le_refl _) _).alloc (by simp) _).alloc (by simp; omega) _).alloc (by simp; omega) _
end Go.Proofs.YtbkpdapagfjmmaaGreatDoor
