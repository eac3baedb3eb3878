import Derived.Test.YtbkpdapagfjmmaaDoorMFJSpec17
import Derived.Laws.EntriesVeiled
import Derived.Test.YtbkpdapagfjmmaaDoorProg
import Derived.Test.YtbkpdapagfjmmaaDoorMSpecSpec3
import Derived.Test.YtbkpdapagfjmmaaDoorMSpec5W0
import Derived.Test.YtbkpdapagfjmmaaDoorMFBO1
/-
  Walks: an end comes down.
-/
namespace Go.Proofs.YtbkpdapagfjmmaaDoor
open Go.RowKit

def downC (flt : Int) (rs : List Nat) : EC := ⟨⟨#[]⟩, flt, .nilFunc, 0, nilS, 0, 0, 0, 0, nilS, .nilFunc, 0, nilS, 0, 0, 0, .map none, rs, false, false⟩
theorem setRow_is {w : World} {b : Nat} {T : TypeId} {cs : List Value} (h : Is w b T cs) (ds : Array Value) : Is (w.setRow b ds) b T ds.toList := by
  unfold Is at h ⊢
  have := setRow_heap w b _ ds T (0, 0) h
  simpa using this
theorem setRow_only (w : World) (b : Nat) (ds : Array Value) : Only (fun i => i = b) w (w.setRow b ds) := by
  refine ⟨rfl, rfl, rfl, by simp [World.setRow], fun i _ hn => ?_⟩
  simp only [World.setRow]
  rw [Array.getElem?_modify]
  rw [if_neg (fun e => hn e.symm)]
theorem info_end : (Tryd.prog.info? 108).map (fun i => i.size) = some 22 := by kernel_rfl
theorem firstV_ptr (rs : List Nat) : ∃ p, firstV rs = .pointer p := by unfold firstV optPtr; cases rs.head? <;> exact ⟨_, rfl⟩
theorem lastV_ptr (rs : List Nat) : ∃ p, lastV rs = .pointer p := by unfold lastV optPtr; cases rs.getLast? <;> exact ⟨_, rfl⟩
set_option maxHeartbeats 2000000 in
set_option maxRecDepth 100000 in
theorem fall_said (b flt : Nat) (c : EC) (fs : List Lk.Fr) (w : World) (hR : Rw w b c fs) (hby : c.bs = true) :
    Calls Tryd.prog 44 #[.pointer (some ⟨b, 0, none⟩), .int .i64 (flt : Int)] w fun r w' => r = .returned (.tuple #[]) ∧ Rw w' b (downC flt c.rs) fs ∧ Only (fun i => i = b) w w' := by
  have hbl := hR.lt
  have c18 : w.cell? ⟨b, 18, none⟩ = some (firstV c.rs) := hR.blk.cell 18
  have c19 : w.cell? ⟨b, 19, none⟩ = some (lastV c.rs) := hR.blk.cell 19
  have c20 : w.cell? ⟨b, 20, none⟩ = some (.bool true) := by have := hR.blk.cell 20; rw [← hby]; exact this
  obtain ⟨fp, hfp⟩ := firstV_ptr c.rs
  obtain ⟨lp, hlp⟩ := lastV_ptr c.rs
  rw [hfp] at c18
  rw [hlp] at c19
  have HSI := hide (setRow_is hR.blk #[.string ⟨#[]⟩, .int .i64 0, .int .i64 (flt : Int), .nilFunc, .int .i64 0, .slice none 0 0, .int .i64 0, .int .i64 0, .int .i64 0, .int .i64 0, .slice none 0 0, .nilFunc, .int .i64 0, .slice none 0 0, .int .i64 0, .int .i64 0, .int .i64 0, .map none, .pointer fp, .pointer lp, .bool false, .bool false])
  have HSO := hide (setRow_only w b #[.string ⟨#[]⟩, .int .i64 0, .int .i64 (flt : Int), .nilFunc, .int .i64 0, .slice none 0 0, .int .i64 0, .int .i64 0, .int .i64 0, .int .i64 0, .slice none 0 0, .nilFunc, .int .i64 0, .slice none 0 0, .int .i64 0, .int .i64 0, .int .i64 0, .map none, .pointer fp, .pointer lp, .bool false, .bool false])
  have HBK := hide hR.blk
  unfold Is at HBK
  have HFP := hide hfp
  have HLP := hide hlp
  have HR := hide hR
  clear hR hby hfp hlp
  go_enter Tryd.func44, Tryd.ntmps44
  go_wp2_with (refine wpList_store_row rfl 108 _ _ rfl b #[.string ⟨#[]⟩, .int .i64 0, .int .i64 (flt : Int), .nilFunc, .int .i64 0, .slice none 0 0, .int .i64 0, .int .i64 0, .int .i64 0, .int .i64 0, .slice none 0 0, .nilFunc, .int .i64 0, .slice none 0 0, .int .i64 0, .int .i64 0, .int .i64 0, .map none, .pointer fp, .pointer lp, .bool false, .bool false] rfl rfl 108 _ (unhide HBK) info_end rfl (Array.all_eq_true_iff_forall_mem.2 (by simp [Value.oneCell'])) ?_)
  go_end0
  refine ⟨rfl, (unhide HR).cell (c' := downC flt c.rs) ?_ ?_ rfl, ?_⟩
  · have := unhide HSI
    show Is _ b _ [.string ⟨#[]⟩, .int .i64 0, .int .i64 (flt : Int), .nilFunc, .int .i64 0, .slice none 0 0, .int .i64 0, .int .i64 0, .int .i64 0, .int .i64 0, .slice none 0 0, .nilFunc, .int .i64 0, .slice none 0 0, .int .i64 0, .int .i64 0, .int .i64 0, .map none, firstV c.rs, lastV c.rs, .bool false, .bool false]
    rw [unhide HFP, unhide HLP]
    exact this
  · exact unhide HSO
  · exact unhide HSO

set_option maxHeartbeats 2000000 in
set_option maxRecDepth 100000 in
theorem fall_unsaid (b flt n : Nat) (c : EC) (fs : List Lk.Fr) (w : World) (hR : Rw w b c fs) (hby : c.bs = false) (hn : c.inext = (n : Int)) (hn2 : n ≤ 268435457) :
    Calls Tryd.prog 44 #[.pointer (some ⟨b, 0, none⟩), .int .i64 (flt : Int)] w fun r w' => r = .returned (.tuple #[]) ∧ ∃ m, w.heap.size ≤ m ∧ Rw w' b (downC flt (c.rs ++ [m])) (fs ++ [⟨7, 0, Lk.wire (n - 2)⟩]) ∧ Only (fun i => i = b ∨ i ∈ c.rs) w w' := by
  have hbl := hR.lt
  have c20 : w.cell? ⟨b, 20, none⟩ = some (.bool false) := by have := hR.blk.cell 20; rw [← hby]; exact this
  have HS := hide (sendBye_raw b n c fs w hR hn hn2)
  clear hR hby hn
  go_enter Tryd.func44, Tryd.ntmps44
  go_wp2_with fail
  refine (unhide HS).mono ?_
  rintro r w1 ⟨rfl, m, hm, hR1, hO1⟩
  clear c20
  have c18 : w1.cell? ⟨b, 18, none⟩ = some (firstV (c.rs ++ [m])) := hR1.blk.cell 18
  have c19 : w1.cell? ⟨b, 19, none⟩ = some (lastV (c.rs ++ [m])) := hR1.blk.cell 19
  have c20 : w1.cell? ⟨b, 20, none⟩ = some (.bool true) := hR1.blk.cell 20
  have hbl1 := hR1.lt
  obtain ⟨fp, hfp⟩ := firstV_ptr (c.rs ++ [m])
  obtain ⟨lp, hlp⟩ := lastV_ptr (c.rs ++ [m])
  rw [hfp] at c18
  rw [hlp] at c19
  have HSI := hide (setRow_is hR1.blk #[.string ⟨#[]⟩, .int .i64 0, .int .i64 (flt : Int), .nilFunc, .int .i64 0, .slice none 0 0, .int .i64 0, .int .i64 0, .int .i64 0, .int .i64 0, .slice none 0 0, .nilFunc, .int .i64 0, .slice none 0 0, .int .i64 0, .int .i64 0, .int .i64 0, .map none, .pointer fp, .pointer lp, .bool false, .bool false])
  have HSO := hide (setRow_only w1 b #[.string ⟨#[]⟩, .int .i64 0, .int .i64 (flt : Int), .nilFunc, .int .i64 0, .slice none 0 0, .int .i64 0, .int .i64 0, .int .i64 0, .int .i64 0, .slice none 0 0, .nilFunc, .int .i64 0, .slice none 0 0, .int .i64 0, .int .i64 0, .int .i64 0, .map none, .pointer fp, .pointer lp, .bool false, .bool false])
  have HBK := hide hR1.blk
  unfold Is at HBK
  have HFP := hide hfp
  have HLP := hide hlp
  have HR1 := hide hR1
  have HO1 := hide hO1
  clear hR1 hO1 hfp hlp
  go_wp2_with (refine wpList_store_row rfl 108 _ _ rfl b #[.string ⟨#[]⟩, .int .i64 0, .int .i64 (flt : Int), .nilFunc, .int .i64 0, .slice none 0 0, .int .i64 0, .int .i64 0, .int .i64 0, .int .i64 0, .slice none 0 0, .nilFunc, .int .i64 0, .slice none 0 0, .int .i64 0, .int .i64 0, .int .i64 0, .map none, .pointer fp, .pointer lp, .bool false, .bool false] rfl rfl 108 _ (unhide HBK) info_end rfl (Array.all_eq_true_iff_forall_mem.2 (by simp [Value.oneCell'])) ?_)
  go_end0
  refine ⟨rfl, m, hm, (unhide HR1).cell (c' := downC flt (c.rs ++ [m])) ?_ ?_ rfl, (unhide HO1).trans (S' := fun i => i = b) ?_ (fun i hi _ => .inl hi)⟩
  · have := unhide HSI
    show Is _ b _ [.string ⟨#[]⟩, .int .i64 0, .int .i64 (flt : Int), .nilFunc, .int .i64 0, .slice none 0 0, .int .i64 0, .int .i64 0, .int .i64 0, .int .i64 0, .slice none 0 0, .nilFunc, .int .i64 0, .slice none 0 0, .int .i64 0, .int .i64 0, .int .i64 0, .map none, firstV (c.rs ++ [m]), lastV (c.rs ++ [m]), .bool false, .bool false]
    rw [unhide HFP, unhide HLP]
    exact this
  · exact unhide HSO
  · exact unhide HSO
end Go.Proofs.YtbkpdapagfjmmaaDoor

/-
  Walks: an end comes down.
-/
namespace Go.Proofs.YtbkpdapagfjmmaaDoor
open Go.RowKit

def downD (b : Nat) (rs : List Nat) (fs : List Lk.Fr) : PD := ⟨nilS, nilS, nilS, [], rs, b, 0, fun _ => .none, fs⟩
theorem downD_foot {b : Nat} {rs : List Nat} {fs : List Lk.Fr} {i : Nat} (h : foot b (downD b rs fs) i) : i = b ∨ i ∈ rs := by
  rcases h with hi | hi | hi | hi | hi | hi | hi | ⟨k, hi⟩
  · exact .inl hi
  · cases hi
  · cases hi
  · cases hi
  · cases hi
  · exact .inr hi
  · exact .inl hi
  · cases hi
theorem fall_any (b flt : Nat) (e : Lk.En) (d : PD) (w : World) (hL : Live w b e d) (hf : flt ≠ 0) :
    Calls Tryd.prog 44 #[.pointer (some ⟨b, 0, none⟩), .int .i64 (flt : Int)] w fun r w' => r = .returned (.tuple #[]) ∧ PPost w b d (e.dn flt).falls w' := by
  have hpb := hL.pos b (.inl rfl)
  have hbl := hL.rw.lt
  by_cases hby : e.byeS = true
  · have hfe : (e.dn flt).falls = e.dn flt := by
      unfold Lk.En.falls
      rw [if_neg]
      show ¬ (flt ≠ 0 ∧ e.byeS = false)
      rw [hby]
      simp
    rw [hfe]
    refine (fall_said b flt (ecOf e d) d.fs w hL.rw hby).mono ?_
    rintro r w' ⟨rfl, hR, hO⟩
    refine ⟨rfl, downD b d.rs d.fs, .inr ⟨hR, hL.rowe, hL.good, hf, ⟨rfl, rfl, rfl, rfl, rfl, fun _ => rfl⟩, hL.wf.withDown flt, fun i hi => ?_⟩, fun i hi => ?_, hO.mono (fun i hi => .inl hi)⟩
    · rcases downD_foot hi with rfl | hi
      · exact hpb
      · exact hL.pos i (.inr (.inr (.inr (.inr (.inr (.inl hi))))))
    · rcases downD_foot hi with rfl | hi
      · exact .inl (.inl rfl)
      · exact .inl (.inr (.inr (.inr (.inr (.inr (.inl hi))))))
  · have hby' : e.byeS = false := by simpa using hby
    have hfe : (e.dn flt).falls = (e.dn flt).bye := by
      unfold Lk.En.falls
      rw [if_pos]
      exact ⟨hf, hby'⟩
    rw [hfe]
    have hW : Lk.Wf (e.dn flt).bye := (hL.wf.withDown flt).bye
    have hn2 : nextOth e ≤ 268435457 := nextOth_le hL.wf
    refine (fall_unsaid b flt (nextOth e) (ecOf e d) d.fs w hL.rw hby' rfl hn2).mono ?_
    rintro r w' ⟨rfl, m, hm, hR, hO⟩
    have hlo : (e.dn flt).lastOth = nextOth e - 2 := lastOth_eq (hL.wf.withDown flt)
    have hR' : Rw w' b (ecDown (e.dn flt).bye (downD b (d.rs ++ [m]) (d.fs ++ [⟨7, 0, Lk.wire (nextOth e - 2)⟩]))) (downD b (d.rs ++ [m]) (d.fs ++ [⟨7, 0, Lk.wire (nextOth e - 2)⟩])).fs := hR
    refine ⟨rfl, downD b (d.rs ++ [m]) (d.fs ++ [⟨7, 0, Lk.wire (nextOth e - 2)⟩]), .inr ⟨hR', ?_, ?_, hf, ⟨rfl, rfl, rfl, rfl, rfl, fun _ => rfl⟩, hW, fun i hi => ?_⟩, fun i hi => ?_, hO.mono (fun i hi => ?_)⟩
    · show (e.dn flt).row ++ [Lk.packed 7 0 (Lk.wire (e.dn flt).lastOth)] = _
      rw [hlo]
      show e.row ++ _ = _
      rw [hL.rowe]
      show _ = (d.fs ++ [_]).map _
      rw [List.map_append]
      rfl
    · intro f hf'
      rcases List.mem_append.1 hf' with hf' | hf'
      · exact hL.good f hf'
      · simp at hf'
        subst hf'
        exact Lk.good_bye _ (by omega)
    · rcases downD_foot hi with rfl | hi
      · exact hpb
      · rcases List.mem_append.1 hi with hi | hi
        · exact hL.pos i (.inr (.inr (.inr (.inr (.inr (.inl hi))))))
        · simp at hi
          omega
    · rcases downD_foot hi with rfl | hi
      · exact .inl (.inl rfl)
      · rcases List.mem_append.1 hi with hi | hi
        · exact .inl (.inr (.inr (.inr (.inr (.inr (.inl hi))))))
        · simp at hi
          subst hi
          exact .inr hm
    · rcases hi with hi | hi
      · exact .inl hi
      · exact .inr (.inr (.inr (.inr (.inr (.inl hi)))))
end Go.Proofs.YtbkpdapagfjmmaaDoor

/-
  Walks: what is asked of a kind, a stream, a length (both sides).
-/
namespace Go.Proofs.YtbkpdapagfjmmaaDoor
open Go.RowKit

set_option maxHeartbeats 400000 in
theorem askKind_any (k : Int) (w : World) :
    Calls Tryd.prog 82 #[.int .i64 k] w fun e w' => e = .returned (.int .i64 (Lk.kindErr k)) ∧ w' = w := by
  go_enter Tryd.func82, Tryd.ntmps82
  go_wp2
  all_goals go_ret
  all_goals refine ⟨ret_int ?_, rfl⟩
  all_goals unfold Lk.kindErr
  all_goals first | (rw [if_pos (by omega)]; done) | (rw [if_neg (by omega)]; done)

theorem kinds8 {k : Int} (h0 : 0 ≤ k) (h7 : k ≤ 7) : k = 0 ∨ k = 1 ∨ k = 2 ∨ k = 3 ∨ k = 4 ∨ k = 5 ∨ k = 6 ∨ k = 7 := by omega

def wantOf (k : Int) : Int × Int × Int × Int :=
  if k = 0 then (1, 268435455, 0, 64) else if k = 1 then (1, 268435455, 1, 16) else if k = 2 then (1, 268435455, 0, 16) else if k = 3 then (1, 268435455, 1, 4)
  else if k = 4 then (0, 268435455, 1, 4) else if k = 5 then (0, 0, 8, 8) else if k = 6 then (0, 0, 8, 8) else (0, 0, 1, 4)

set_option maxHeartbeats 400000 in
theorem wantOf_any (k : Int) (h0 : 0 ≤ k) (h7 : k ≤ 7) (w : World) :
    Calls Tryd.prog 107 #[.int .i64 k] w fun e w' => e = .returned (.agg #[.int .i64 (wantOf k).1, .int .i64 (wantOf k).2.1, .int .i64 (wantOf k).2.2.1, .int .i64 (wantOf k).2.2.2]) ∧ Below w.heap.size w w' := by
  rcases kinds8 h0 h7 with rfl | rfl | rfl | rfl | rfl | rfl | rfl | rfl
  all_goals
    rw [wantOf]
    go_enter Tryd.func107, Tryd.ntmps107
    go_wp2
    refine bodyPost_ret (v := _) (by simp [results, Tryd.results107, go_sem]) rfl ⟨rfl, ?_⟩
    ((repeat' (first | exact Below.refl _ _ | assumption | apply Below.drew | apply Below.alloc | apply Below.setCell)) <;> (simp <;> omega))

def IsWant (k a b x y : Int) : Prop := wantOf k = (a, b, x, y)

theorem wantOf_is (k : Int) (h0 : 0 ≤ k) (h7 : k ≤ 7) (w : World) :
    Calls Tryd.prog 107 #[.int .i64 k] w fun e w' => ∃ a b x y, e = .returned (.agg #[.int .i64 a, .int .i64 b, .int .i64 x, .int .i64 y]) ∧ IsWant k a b x y ∧ Below w.heap.size w w' := by
  refine (wantOf_any k h0 h7 w).mono ?_
  rintro e w' ⟨rfl, hb⟩
  exact ⟨_, _, _, _, rfl, rfl, hb⟩

end Go.Proofs.YtbkpdapagfjmmaaDoor

/-
  Walks: the cursor: one byte, so many bytes; the reader: what lacks, what it keeps.
-/
namespace Go.Proofs.YtbkpdapagfjmmaaDoor
open Go.RowKit

theorem take_no (b : Nat) (T : TypeId) (s : ByteArray) (p n : Nat) (more : List Value) (w : World) (hs : s.size ≤ maxLen) (hp : p ≤ s.size) (hn : s.size < p + n) (hI : Is w b T (.string s :: .int .i64 p :: more)) :
    Calls Tryd.prog 86 #[.pointer (some ⟨b, 0, none⟩), .int .i64 n] w fun e w' => e = .returned (.tuple #[.string ⟨#[]⟩, .bool false]) ∧ Is w' b T (.string s :: .int .i64 (s.size : Int) :: more) ∧ Turns b w w' := by
  unfold maxLen at hs
  have c0 : w.cell? ⟨b, 0, none⟩ = some (.string s) := hI.cell 0
  have c1 : w.cell? ⟨b, 1, none⟩ = some (.int .i64 p) := hI.cell 1
  have f1 : w.frozen? ⟨b, 1, none⟩ = false := hI.free 1
  have hlt : (s.size : Int) - p < n := by omega
  go_enter Tryd.func86, Tryd.ntmps86
  go_wp2_with fail
  go_quiet (fail)
  go_wp2_with fail
  go_ret2
  exact ⟨rfl, (hI.drewN _).set 1 _, ((Turns.refl _ _).drewN _).set 1 _⟩

theorem take_yes (b : Nat) (T : TypeId) (s : ByteArray) (p n : Nat) (more : List Value) (w : World) (hs : s.size ≤ maxLen) (hn : p + n ≤ s.size) (hI : Is w b T (.string s :: .int .i64 p :: more)) :
    Calls Tryd.prog 86 #[.pointer (some ⟨b, 0, none⟩), .int .i64 n] w fun e w' => e = .returned (.tuple #[.string (s.extract p (p + n)), .bool true]) ∧ Is w' b T (.string s :: .int .i64 ((p + n : Nat) : Int) :: more) ∧ Turns b w w' := by
  unfold maxLen at hs
  have c0 : w.cell? ⟨b, 0, none⟩ = some (.string s) := hI.cell 0
  have c1 : w.cell? ⟨b, 1, none⟩ = some (.int .i64 p) := hI.cell 1
  have f1 : w.frozen? ⟨b, 1, none⟩ = false := hI.free 1
  have hlt : ¬ ((s.size : Int) - p < n) := by omega
  have hn' : (p : Int) + n ≤ s.size := by omega
  go_enter Tryd.func86, Tryd.ntmps86
  go_wp2_with fail
  go_quiet (fail)
  go_wp2_with fail
  go_quiet (fail)
  go_wp2_with fail
  go_ret2
  exact ⟨rfl, (hI.drewN _).set 1 _, ((Turns.refl _ _).drewN _).set 1 _⟩

theorem lack_any (b : Nat) (T : TypeId) (s : ByteArray) (p : Nat) (more : List Value) (w : World) (hs : s.size ≤ maxLen) (hI : Is w b T (.string s :: .int .i64 p :: more)) :
    Calls Tryd.prog 83 #[.pointer (some ⟨b, 0, none⟩)] w fun e w' => e = .returned (.int .i64 (if s.size ≤ p then 0 else 2)) ∧ ∃ n, w' = w.drewN n := by
  have HE := hide (fun w hI => ended_any b T s p more w hs hI)
  by_cases h : s.size ≤ p
  · have hd : decide (s.size ≤ p) = true := by simp; omega
    rw [if_pos h]
    go_enter Tryd.func83, Tryd.ntmps83
    go_wp2_with fail
    refine (unhide HE _ hI).mono ?_
    rintro e w1 ⟨rfl, n1, rfl⟩
    go_wp2_with fail
    go_ret
    exact ⟨rfl, _, rfl⟩
  · have hd : decide (s.size ≤ p) = false := by simp; omega
    rw [if_neg h]
    go_enter Tryd.func83, Tryd.ntmps83
    go_wp2_with fail
    refine (unhide HE _ hI).mono ?_
    rintro e w1 ⟨rfl, n1, rfl⟩
    go_wp2_with fail
    go_ret
    exact ⟨rfl, _, rfl⟩

end Go.Proofs.YtbkpdapagfjmmaaDoor

/-
  Walks: what the reader keeps.
-/
namespace Go.Proofs.YtbkpdapagfjmmaaDoor
open Go.RowKit

theorem Turns.setNew {b : Nat} {w w1 : World} (h : Turns b w w1) {a : Addr} (ha : w.heap.size ≤ a.block) (v : Value) : Turns b w (w1.setCell a v) :=
  ⟨h.os, h.tape, h.output, by simpa using h.size, fun k hk hn => (heap_setCell_other _ _ _ _ (by omega)).trans (h.block k hk hn)⟩

set_option maxHeartbeats 400000 in
theorem keep_ok {T : TypeId} {more : List Value} (b : Nat) (s : ByteArray) (p q : Nat) (f : Int) (w : World) (_hs : s.size ≤ maxLen) (hq : q ≤ s.size) (hr : s.size - q ≤ 1000)
    (hI : Is w b T (.string s :: .int .i64 p :: .int .i64 f :: more)) :
    Calls Tryd.prog 63 #[.pointer (some ⟨b, 0, none⟩), .int .i64 q, .int .i64 0] w fun e w' =>
      e = .returned (.tuple #[]) ∧ Is w' b T (.string (s.extract q s.size) :: .int .i64 0 :: .int .i64 0 :: more) ∧ Turns b w w' := by
  unfold maxLen at _hs
  have HC := hide (fun w => clone_any (s.extract q s.size) w (by rw [ByteArray.size_extract]; omega))
  have c0 : w.cell? ⟨b, 0, none⟩ = some (.string s) := hI.cell 0
  have hq' : (q : Int) ≤ s.size := by omega
  go_enter Tryd.func63, Tryd.ntmps63
  go_wp2_with fail
  refine (unhide HC _).mono ?_
  rintro e w1 ⟨rfl, hb⟩
  have hI1 := hI.below hb hI.lt
  have hT1 := (Turns.refl b w).below hb
  have d0 := hI1.cell 0
  have d1 := hI1.cell 1
  have d2 := hI1.cell 2
  have f0 := hI1.free 0
  have f1 := hI1.free 1
  have f2 := hI1.free 2
  simp only [List.getElem?_cons_zero, List.getElem?_cons_succ] at d0 d1 d2
  clear hb hI c0
  go_wp2_with fail
  go_end0
  exact ⟨rfl, ((hI1.set 0 _).set 1 _).set 2 _, ((hT1.set 0 _).set 1 _).set 2 _⟩

set_option maxHeartbeats 400000 in
theorem keep_bad {T : TypeId} {more : List Value} (b : Nat) (s : ByteArray) (p q : Nat) (f e0 : Int) (w : World) (he : e0 ≠ 0)
    (hI : Is w b T (.string s :: .int .i64 p :: .int .i64 f :: more)) :
    Calls Tryd.prog 63 #[.pointer (some ⟨b, 0, none⟩), .int .i64 q, .int .i64 e0] w fun e w' =>
      e = .returned (.tuple #[]) ∧ Is w' b T (.string ⟨#[]⟩ :: .int .i64 0 :: .int .i64 e0 :: more) ∧ Turns b w w' := by
  have he' : (e0 == 0) = false := by simpa using he
  have d0 := hI.cell 0
  have d1 := hI.cell 1
  have d2 := hI.cell 2
  have f0 := hI.free 0
  have f1 := hI.free 1
  have f2 := hI.free 2
  simp only [List.getElem?_cons_zero, List.getElem?_cons_succ] at d0 d1 d2
  clear he
  go_enter Tryd.func63, Tryd.ntmps63
  go_wp2_with fail
  go_end0
  exact ⟨rfl, ((hI.set 0 _).set 1 _).set 2 _, (((Turns.refl _ _).set 0 _).set 1 _).set 2 _⟩

end Go.Proofs.YtbkpdapagfjmmaaDoor
