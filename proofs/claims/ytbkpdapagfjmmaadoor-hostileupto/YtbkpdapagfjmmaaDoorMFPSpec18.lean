import Derived.Test.YtbkpdapagfjmmaaDoorFN
import Derived.Test.YtbkpdapagfjmmaaDoorMU3PY
import Derived.Test.YtbkpdapagfjmmaaDoorMFJSpec17
/-
  Walks: New.
-/
namespace Go.Proofs.YtbkpdapagfjmmaaDoor
open Go.RowKit

set_option maxHeartbeats 1000000 in
set_option maxRecDepth 100000 in
theorem newOutbound_any (f win : Int) (hw0 : 0 ≤ win) (hw : win ≤ 200) (w : World) :
    Calls Tryd.prog 38 #[.int .i64 f, .int .i64 win] w fun e w' => e = .returned (.agg #[weighV, .int .i64 100, .slice none 0 0, .int .i64 win, .int .i64 f, .int .i64 0, .int .i64 (2 * win), .slice none 0 0]) ∧ Below w.heap.size w w' := by
  have HX := hide (Is.new w 96 [.nilFunc, .int .i64 0, .slice none 0 0, .int .i64 0, .int .i64 0, .int .i64 0, .int .i64 0, .slice none 0 0])
  have HB := hide ((Below.refl w.heap.size w).alloc (Nat.le_refl _) (.cells #[.nilFunc, .int .i64 0, .slice none 0 0, .int .i64 0, .int .i64 0, .int .i64 0, .int .i64 0, .slice none 0 0] 96))
  go_enter Tryd.func38, Tryd.ntmps38
  go_wp2_with fail
  refine (newTable_val _ _).mono ?_
  rintro e w1 ⟨rfl, hb⟩
  have hX1 := (unhide HX).below hb (by simp)
  have hbel := (unhide HB).trans (hb.mono (by simp))
  have n0 := hX1.cell 0
  have n1 := hX1.cell 1
  have n2 := hX1.cell 2
  have n3 := hX1.cell 3
  have n4 := hX1.cell 4
  have n5 := hX1.cell 5
  have n6 := hX1.cell 6
  have n7 := hX1.cell 7
  have g0 := hX1.free 0
  have g1 := hX1.free 1
  have g2 := hX1.free 2
  have g3 := hX1.free 3
  have g4 := hX1.free 4
  have g5 := hX1.free 5
  have g6 := hX1.free 6
  have g7 := hX1.free 7
  have hl := hX1.lt
  simp only [List.getElem?_cons_zero, List.getElem?_cons_succ] at n0 n1 n2 n3 n4 n5 n6 n7
  clear hb hX1
  go_wp2_with fail
  exact bodyPost_ret (v := .agg #[weighV, .int .i64 100, .slice none 0 0, .int .i64 win, .int .i64 f, .int .i64 0, .int .i64 (2 * win), .slice none 0 0]) (by simp [results, Tryd.results38, go_sem, n0, n1, n2, n3, n4, n5, n6, n7]) rfl ⟨rfl, (((((((hbel.setCell (by simp) _).setCell (by simp) _).setCell (by simp) _).setCell (by simp) _).setCell (by simp) _).setCell (by simp) _).setCell (by simp) _).setCell (by simp) _⟩
set_option maxHeartbeats 1000000 in
set_option maxRecDepth 100000 in
theorem newInbound_any (f win : Int) (hw0 : 0 ≤ win) (hw : win ≤ 200) (w : World) :
    Calls Tryd.prog 39 #[.int .i64 f, .int .i64 win] w fun e w' => ∃ m, e = .returned (.agg #[weighV, .int .i64 100, .slice none 0 0, .int .i64 win, .int .i64 f, .int .i64 (2 * win), .map (some m)]) ∧ w.heap.size ≤ m ∧ MapIs Tryd.prog 3 w' m 0 (fun _ => none) ∧ Below w.heap.size w w' := by
  have HX := hide (Is.new w 100 [.nilFunc, .int .i64 0, .slice none 0 0, .int .i64 0, .int .i64 0, .int .i64 0, .map none])
  have HB := hide ((Below.refl w.heap.size w).alloc (Nat.le_refl _) (.cells #[.nilFunc, .int .i64 0, .slice none 0 0, .int .i64 0, .int .i64 0, .int .i64 0, .map none] 100))
  have hmm := @run_makeMap Tryd.prog
  go_enter Tryd.func39, Tryd.ntmps39
  go_wp2_with fail
  refine (newTable_val _ _).mono ?_
  rintro e w1 ⟨rfl, hb⟩
  have hM := MapIs.made Tryd.prog 3 w1
  have hX1 := ((unhide HX).below hb (by simp)).alloc (.map #[] 0)
  have hs1 : w.heap.size + 1 ≤ w1.heap.size := by have := hb.size; simpa using this
  have hbel := ((unhide HB).trans (hb.mono (by simp))).alloc (by omega) (.map #[] 0)
  have n0 := hX1.cell 0
  have n1 := hX1.cell 1
  have n2 := hX1.cell 2
  have n3 := hX1.cell 3
  have n4 := hX1.cell 4
  have n5 := hX1.cell 5
  have n6 := hX1.cell 6
  have g0 := hX1.free 0
  have g1 := hX1.free 1
  have g2 := hX1.free 2
  have g3 := hX1.free 3
  have g4 := hX1.free 4
  have g5 := hX1.free 5
  have g6 := hX1.free 6
  have hl := hX1.lt
  simp only [List.getElem?_cons_zero, List.getElem?_cons_succ] at n0 n1 n2 n3 n4 n5 n6
  have HM := hide (⟨hM, hbel⟩ : _ ∧ _)
  clear hb hX1 hM hbel
  go_wp2_with fail
  obtain ⟨hM, hbel⟩ := unhide HM
  refine bodyPost_ret (v := .agg #[weighV, .int .i64 100, .slice none 0 0, .int .i64 win, .int .i64 f, .int .i64 (2 * win), .map (some w1.heap.size)]) (by simp [results, Tryd.results39, go_sem, n0, n1, n2, n3, n4, n5, n6]) rfl ⟨w1.heap.size, rfl, by omega, ?_, ((((((hbel.setCell (by simp) _).setCell (by simp) _).setCell (by simp) _).setCell (by simp) _).setCell (by simp) _).setCell (by simp) _).setCell (by simp) _⟩
  have hO : ∀ W, Only (· = w.heap.size) (w1.alloc (.map #[] 0)) W → MapIs Tryd.prog 3 W w1.heap.size 0 (fun _ => none) := fun W k => hM.only k (by omega)
  exact hO _ ((((((((Only.refl (· = w.heap.size) _).set w.heap.size 0 _ (fun _ => rfl)).set w.heap.size 1 _ (fun _ => rfl)).set w.heap.size 2 _ (fun _ => rfl)).set w.heap.size 3 _ (fun _ => rfl)).set w.heap.size 4 _ (fun _ => rfl)).set w.heap.size 5 _ (fun _ => rfl)).set w.heap.size 6 _ (fun _ => rfl))

def newD (m : Nat) : PD := ⟨nilS, nilS, nilS, [], [], m, 0, fun _ => .none, []⟩
theorem newD_foot {b m i : Nat} (h : foot b (newD m) i) : i = b ∨ i = m := by
  rcases h with hi | hi | hi | hi | hi | hi | hi | ⟨k, hi⟩
  · exact .inl hi
  · cases hi
  · cases hi
  · cases hi
  · cases hi
  · cases hi
  · exact .inr hi
  · cases hi
theorem new_live {w : World} {b m s win : Nat} (hs : s ≤ 1) (h1 : 1 ≤ win) (h2 : win ≤ 200) (hb : 0 < b) (hm : 0 < m) (hI : Is w b 108 (ecOf (Lk.En.new s win) (newD m)).cells) (hM : MapIs Tryd.prog 3 w m 0 (fun _ => none)) : Live w b (Lk.En.new s win) (newD m) :=
  ⟨⟨hI, Chain.nil w⟩, rfl, by simp [newD], World.ownsRow_nil _ _ _ _, World.ownsRow_nil _ _ _ _, World.ownsRow_nil _ _ _ _, ⟨by simp [upOwn, Lk.En.new, newD], fun i o p ho _ => by simp [upOwn, Lk.En.new] at ho⟩, by simp [newD], by simp [newD], hM, by simp [newD], by simp [Lk.En.new], fun _ _ => rfl, by simp [newD], Lk.Wf.new hs h1 h2, fun i hi => by rcases newD_foot hi with rfl | rfl <;> assumption⟩
set_option maxHeartbeats 1000000 in
set_option maxRecDepth 100000 in
theorem new_ok (s win : Nat) (hs : s ≤ 1) (h1 : 1 ≤ win) (h2 : win ≤ 200) (w : World) (hw : 0 < w.heap.size) :
    Calls Tryd.prog 25 #[.int .i64 (s : Int), .int .i64 (win : Int)] w fun e w' => ∃ b d, e = .returned (.tuple #[.pointer (some ⟨b, 0, none⟩), .int .i64 0]) ∧ PEnd w' b (Lk.En.new s win) d ∧ (∀ i, foot b d i → w.heap.size ≤ i) ∧ Below w.heap.size w w' := by
  have hs01 : s = 0 ∨ s = 1 := by omega
  have hw1 : ¬ (win : Int) < 1 := by omega
  have hw2 : ¬ 200 < (win : Int) := by omega
  have HO := hide (newOutbound_any (1 + (s : Int)) win (by omega) (by omega) w)
  have HN := hide (fun w1 => newInbound_any (2 - (s : Int)) win (by omega) (by omega) w1)
  have HS := hide (⟨hs, h1, h2, hw⟩ : _ ∧ _ ∧ _ ∧ _)
  clear h1 h2 hw hs
  rcases hs01 with rfl | rfl
  all_goals
    go_enter Tryd.func25, Tryd.ntmps25
    go_wp2_with fail
    refine (unhide HO).mono ?_
    rintro r w1 ⟨rfl, hb1⟩
    go_wp2_with fail
    refine (unhide HN w1).mono ?_
    rintro r w2 ⟨m, rfl, hm, hM, hb2⟩
    have HX := hide (⟨hb1, hm, hM, hb2⟩ : _ ∧ _ ∧ _ ∧ _)
    clear hb1 hm hM hb2
    go_wp2_with fail
    go_ret2
    obtain ⟨hb1, hm, hM, hb2⟩ := unhide HX
    obtain ⟨hs, h1, h2, hw⟩ := unhide HS
    have s1 := hb1.size
    have s2 := hb2.size
    refine ⟨w2.heap.size, newD m, rfl, .inl ⟨new_live hs h1 h2 (by omega) (by omega) (Is.new w2 108 _) (hM.only ((Only.refl (fun _ => False) w2).alloc _) (fun h => h)), rfl⟩, fun i hi => ?_, (hb1.trans (hb2.mono hb1.size)).alloc (by omega) _⟩
    rcases newD_foot hi with rfl | rfl <;> omega
end Go.Proofs.YtbkpdapagfjmmaaDoor

/-
  Plain mathematics of the document: an end that came down has a bye in its row. Imports nothing of the program.
-/
namespace Go.Proofs.YtbkpdapagfjmmaaDoor.Lk

theorem En.back_byeS (e : En) (n : Nat) : (e.back n).byeS = e.byeS := by unfold En.back; split <;> rfl
theorem En.frame_byeS (e : En) (f : Fr) : (e.frame f).2.2.byeS = e.byeS := by
  unfold En.frame
  split
  · unfold En.headF
    split
    · rfl
    · split
      · rfl
      · split <;> rfl
  · split
    · unfold En.pieceF
      split
      · rfl
      · split
        · rfl
        · split
          · rfl
          · split
            · rfl
            · exact En.back_byeS _ _
    · split
      · unfold En.resetF
        split
        · split <;> rfl
        · split
          · rfl
          · split
            · exact En.back_byeS _ _
            · rfl
      · split
        · unfold En.creditF
          split
          · split <;> rfl
          · split
            · rfl
            · split
              · rfl
              · split <;> rfl
        · split
          · rfl
          · split <;> rfl
theorem En.run_byeS : ∀ (l : List Fr) (e : En), (e.run l).2.2.byeS = e.byeS
  | [], e => rfl
  | f :: l, e => by
    rw [En.run]
    split
    · exact e.frame_byeS f
    · rw [En.run_byeS l]; exact e.frame_byeS f
/-- Whoever comes down has a bye to send. -/
theorem En.feed_bye (e : En) (b : Bs) (hd : e.down = 0) (hs : e.byeS = false) (h : (e.feed b).2.down ≠ 0) : ∃ r n, (e.feed b).2.row = r ++ [packed 7 0 (wire n)] := by
  rw [e.feed_run b hd _ rfl _ rfl] at h ⊢
  simp only at h ⊢
  rw [En.falls_down] at h
  unfold En.falls
  rw [if_pos]
  · exact ⟨_, _, rfl⟩
  · refine ⟨h, ?_⟩
    show (((e.at _).dn _).run _).2.2.byeS = false
    rw [En.run_byeS]
    exact hs
theorem packed_three (f : Fr) : 3 ≤ f.pack.length := by
  unfold Fr.pack packed
  have h1 := wire_len_pos f.st
  have h2 := wire_len_pos f.d.length
  simp
  omega
theorem packed_bye (n : Nat) : 4 ≤ (packed 7 0 (wire n)).length := by
  unfold packed
  have h1 := wire_len_pos 0
  have h2 := wire_len_pos (wire n).length
  have h3 := wire_len_pos n
  simp
  omega
theorem Wf.inRow {e : En} (h : Wf e) {x : Bs} (hx : x ∈ e.row) : ∃ f : Fr, x = f.pack := by
  obtain ⟨fs, h1, _⟩ := h.row
  rw [h1] at hx
  obtain ⟨f, _, hf⟩ := List.mem_map.1 hx
  exact ⟨f, hf.symm⟩
theorem drain_row1 {e : En} {s : Bs} {r : List Bs} (h : e.row = s :: r) (n : Nat) : (En.drain (n + 1) e).1 = s ++ (En.drain n { e with row := r }).1 := by
  have hd : e.drain1 = some (s, { e with row := r }) := by unfold En.drain1; rw [h]
  simp only [En.drain, hd]
/-- At least four bytes are sent. -/
theorem drain_four {e : En} (hw : Wf e) {r : List Bs} {n m : Nat} (h : e.row = r ++ [packed 7 0 (wire n)]) (hm : 2 ≤ m) : 4 ≤ (En.drain m e).1.length := by
  obtain ⟨m, rfl⟩ : ∃ k, m = k + 1 + 1 := ⟨m - 2, by omega⟩
  cases r with
  | nil =>
    rw [drain_row1 (s := packed 7 0 (wire n)) (r := []) (by rw [h]; rfl), List.length_append]
    have := packed_bye n
    omega
  | cons x r =>
    rw [drain_row1 (s := x) (r := r ++ [packed 7 0 (wire n)]) (by rw [h]; rfl), List.length_append]
    obtain ⟨fx, hx⟩ := hw.inRow (x := x) (by rw [h]; simp)
    have h1 := packed_three fx
    rw [← hx] at h1
    cases r with
    | nil =>
      rw [List.nil_append, drain_row1 (e := { e with row := _ }) (s := packed 7 0 (wire n)) (r := []) rfl, List.length_append]
      have := packed_bye n
      omega
    | cons y r =>
      rw [List.cons_append, drain_row1 (e := { e with row := _ }) (s := y) (r := r ++ [packed 7 0 (wire n)]) rfl, List.length_append]
      obtain ⟨fy, hy⟩ := hw.inRow (x := y) (by rw [h]; simp)
      have h2 := packed_three fy
      rw [← hy] at h2
      omega
theorem good_pack_len {f : Fr} (h : Good f.k f.st f.d) : f.pack.length ≤ 73 := by
  unfold Fr.pack packed
  have h1 := wire_len_le4 f.st h.st28
  have h2 := wire_len_le4 f.d.length (by have := h.len; omega)
  have h3 := h.len
  simp
  omega
/-- At most so many bytes are sent. -/
theorem drain_most : ∀ (n : Nat) {e : En}, Wf e → (En.drain n e).1.length ≤ 73 * n
  | 0, e, _ => by simp [En.drain]
  | n + 1, e, h => by
    cases hd : e.drain1 with
    | none => simp [En.drain, hd]
    | some p =>
      obtain ⟨s, e'⟩ := p
      obtain ⟨hw, f, hf, hg⟩ := h.drain1 hd
      have := drain_most n hw
      have h2 := good_pack_len hg
      simp only [En.drain, hd]
      rw [List.length_append, hf]
      omega
theorem En.run_two : ∀ (l : List Fr) (e : En), (e.run l).1.length ≤ 2 * l.length
  | [], e => by simp [En.run]
  | f :: l, e => by
    rw [En.run]
    have h1 := e.frame_two f
    split
    · simp only [List.length_cons]; omega
    · have h2 := En.run_two l (e.frame f).2.2
      rw [List.length_append, List.length_cons]
      omega
theorem all_len3 : ∀ (l : Bs), 3 * (all l).1.length ≤ l.length := by
  intro l
  induction h : l.length using Nat.strongRecOn generalizing l with
  | _ n ih =>
    subst h
    cases hx : nx l with
    | more => rw [all_more hx]; simp
    | err e => rw [all_err hx]; simp
    | frame k st d n =>
      have hb := nx_frame_bounds hx
      have := ih (l.drop n).length (by rw [List.length_drop]; omega) (l.drop n) rfl
      rw [all_frame hx]
      simp only [List.length_cons]
      rw [List.length_drop] at this
      omega
/-- Few events are told. -/
theorem En.feed_len (e : En) (b : Bs) : (e.feed b).1.length ≤ e.rest.length + b.length := by
  by_cases hd : e.down = 0
  · rw [e.feed_run b hd _ rfl _ rfl]
    have h1 := En.run_two (Lk.all (e.rest ++ b)).1 ((e.at (Lk.all (e.rest ++ b)).2.2).dn (Lk.all (e.rest ++ b)).2.1)
    have h2 := all_len3 (e.rest ++ b)
    rw [List.length_append] at h2
    simp only
    omega
  · rw [e.feed_down b hd]
    simp
theorem En.feed_none {e : En} (h : Wf e) : e.feed [] = ([], e) := by
  by_cases hd : e.down = 0
  · have ha : Lk.all (e.rest ++ []) = ([], 0, e.rest) := by rw [List.append_nil]; exact h.rest
    rw [e.feed_run [] hd _ ha _ rfl]
    show (([] : List Ev), ((((e.at e.rest).dn 0)).dn 0).falls) = ([], e)
    have h2 : (((e.at e.rest).dn 0)).dn 0 = e := by rw [← hd]; rfl
    rw [h2]
    unfold En.falls
    rw [if_neg (fun hx => hx.1 hd)]
  · rw [e.feed_down [] hd]
theorem En.drain_rest {a b : En} (n : Nat) (h : a.at [] = b.at []) : (En.drain n a).1 = (En.drain n b).1 := by
  have h1 := En.drain_at n a []
  have h2 := En.drain_at n b []
  rw [h] at h1
  rw [h1] at h2
  exact (Prod.mk.inj h2).1
end Go.Proofs.YtbkpdapagfjmmaaDoor.Lk
