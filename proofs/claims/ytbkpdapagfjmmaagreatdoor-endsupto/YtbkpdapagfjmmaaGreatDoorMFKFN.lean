import Derived.Test.YtbkpdapagfjmmaaGreatDoorMFFFJ
import Derived.Test.YtbkpdapagfjmmaaGreatDoorMK3Spec20
import Derived.Laws.EntriesVeiled
import Derived.Test.YtbkpdapagfjmmaaGreatDoorMW8W10
import Derived.BigQuiet
set_option linter.unusedVariables false
set_option maxRecDepth 100000
set_option maxHeartbeats 16000000
namespace Go.Proofs.YtbkpdapagfjmmaaGreatDoor
open Go.RowKit
def downC (flt : Int) (rs : List Nat) : EC := ⟨⟨#[]⟩, flt, .nilFunc, 0, nilS, 0, 0, 0, 0, nilS, .nilFunc, 0, nilS, 0, 0, 0, .map none, rs, false, false⟩
theorem setRow_is {w : World} {b : Nat} {T : TypeId} {cs : List Value} (h : Is w b T cs) (ds : Array Value) : Is (w.setRow b ds) b T ds.toList := by
  unfold Is at h ⊢
  have := setRow_heap w b _ ds T (0, 0) h
  simpa using this
theorem setRow_only (w : World) (b : Nat) (ds : Array Value) : Only (fun i => i = b) w (w.setRow b ds) := by
  refine ⟨rfl, rfl, rfl, by simp [World.setRow], fun i _ hn => ?_⟩
  simp only [World.setRow]
  rw [Array.getElem?_modify]
  rw [if_neg (fun e => hn e.symm)]
theorem info_end : (Tryz.prog.info? 101).map (fun i => i.size) = some 22 := by kernel_rfl
theorem firstV_ptr (rs : List Nat) : ∃ p, firstV rs = .pointer p := by unfold firstV optPtr; cases rs.head? <;> exact ⟨_, rfl⟩
theorem lastV_ptr (rs : List Nat) : ∃ p, lastV rs = .pointer p := by unfold lastV optPtr; cases rs.getLast? <;> exact ⟨_, rfl⟩
theorem fall_said (b flt : Nat) (c : EC) (fs : List Lk.Fr) (w : World) (hR : Rw w b c fs) (hby : c.bs = true) :
    Calls Tryz.prog 50 #[.pointer (some ⟨b, 0, none⟩), .int .i64 (flt : Int)] w fun r w' => r = .returned (.tuple #[]) ∧ Rw w' b (downC flt c.rs) fs ∧ Only (fun i => i = b) w w' := by
  have hbl := hR.lt
  have c18 : w.cell? ⟨b, 18, none⟩ = some (firstV c.rs) := hR.blk.cell 18
  have c19 : w.cell? ⟨b, 19, none⟩ = some (lastV c.rs) := hR.blk.cell 19
  have c20 : w.cell? ⟨b, 20, none⟩ = some (.bool true) := by have := hR.blk.cell 20; rw [← hby]; exact this
  obtain ⟨fp, hfp⟩ := firstV_ptr c.rs
  obtain ⟨lp, hlp⟩ := lastV_ptr c.rs
  rw [hfp] at c18
  rw [hlp] at c19
  have HSI := hide (setRow_is hR.blk #[.string ⟨#[]⟩, .int .i64 0, .int .i64 (flt : Int), .nilFunc, .int .i64 0, .slice none 0 0, .int .i64 0, .int .i64 0, .int .i64 0, .int .i64 0, .slice none 0 0, .nilFunc, .int .i64 0, .slice none 0 0, .int .i64 0, .int .i64 0, .int .i64 0, .map none, .pointer fp, .pointer lp, .bool false, .bool false])
  have HSO := hide (setRow_only w b #[.string ⟨#[]⟩, .int .i64 0, .int .i64 (flt : Int), .nilFunc, .int .i64 0, .slice none 0 0, .int .i64 0, .int .i64 0, .int .i64 0, .int .i64 0, .slice none 0 0, .nilFunc, .int .i64 0, .slice none 0 0, .int .i64 0, .int .i64 0, .int .i64 0, .map none, .pointer fp, .pointer lp, .bool false, .bool false])
  have HBK := hide hR.blk
  unfold Is at HBK
  have HFP := hide hfp
  have HLP := hide hlp
  have HR := hide hR
  clear hR hby hfp hlp
  go_enter Tryz.func50, Tryz.ntmps50
  go_wp2_with (refine wpList_store_row rfl 101 _ _ rfl b #[.string ⟨#[]⟩, .int .i64 0, .int .i64 (flt : Int), .nilFunc, .int .i64 0, .slice none 0 0, .int .i64 0, .int .i64 0, .int .i64 0, .int .i64 0, .slice none 0 0, .nilFunc, .int .i64 0, .slice none 0 0, .int .i64 0, .int .i64 0, .int .i64 0, .map none, .pointer fp, .pointer lp, .bool false, .bool false] rfl rfl 101 _ (uh HBK) info_end rfl (Array.all_eq_true_iff_forall_mem.2 (by simp [Value.oneCell'])) ?_)
  go_end0
  refine ⟨rfl, (uh HR).cell (c' := downC flt c.rs) ?_ ?_ rfl, ?_⟩
  · have := uh HSI
    show Is _ b _ [.string ⟨#[]⟩, .int .i64 0, .int .i64 (flt : Int), .nilFunc, .int .i64 0, .slice none 0 0, .int .i64 0, .int .i64 0, .int .i64 0, .int .i64 0, .slice none 0 0, .nilFunc, .int .i64 0, .slice none 0 0, .int .i64 0, .int .i64 0, .int .i64 0, .map none, firstV c.rs, lastV c.rs, .bool false, .bool false]
    rw [uh HFP, uh HLP]
    exact this
  · exact uh HSO
  · exact uh HSO
theorem fall_unsaid (b flt n : Nat) (c : EC) (fs : List Lk.Fr) (w : World) (hR : Rw w b c fs) (hby : c.bs = false) (hn : c.inext = (n : Int)) (hn2 : n ≤ 268435457) :
    Calls Tryz.prog 50 #[.pointer (some ⟨b, 0, none⟩), .int .i64 (flt : Int)] w fun r w' => r = .returned (.tuple #[]) ∧ ∃ m, w.heap.size ≤ m ∧ Rw w' b (downC flt (c.rs ++ [m])) (fs ++ [⟨7, 0, Lk.wire (n - 2)⟩]) ∧ Only (fun i => i = b ∨ i ∈ c.rs) w w' := by
  have hbl := hR.lt
  have c20 : w.cell? ⟨b, 20, none⟩ = some (.bool false) := by have := hR.blk.cell 20; rw [← hby]; exact this
  have HS := hide (sendBye_raw b n c fs w hR hn hn2)
  clear hR hby hn
  go_enter Tryz.func50, Tryz.ntmps50
  go_wp2_with fail
  refine (uh HS).mono ?_
  rintro r w1 ⟨rfl, m, hm, hR1, hO1⟩
  clear c20
  have c18 : w1.cell? ⟨b, 18, none⟩ = some (firstV (c.rs ++ [m])) := hR1.blk.cell 18
  have c19 : w1.cell? ⟨b, 19, none⟩ = some (lastV (c.rs ++ [m])) := hR1.blk.cell 19
  have c20 : w1.cell? ⟨b, 20, none⟩ = some (.bool true) := hR1.blk.cell 20
  have hbl1 := hR1.lt
  obtain ⟨fp, hfp⟩ := firstV_ptr (c.rs ++ [m])
  obtain ⟨lp, hlp⟩ := lastV_ptr (c.rs ++ [m])
  rw [hfp] at c18
  rw [hlp] at c19
  have HSI := hide (setRow_is hR1.blk #[.string ⟨#[]⟩, .int .i64 0, .int .i64 (flt : Int), .nilFunc, .int .i64 0, .slice none 0 0, .int .i64 0, .int .i64 0, .int .i64 0, .int .i64 0, .slice none 0 0, .nilFunc, .int .i64 0, .slice none 0 0, .int .i64 0, .int .i64 0, .int .i64 0, .map none, .pointer fp, .pointer lp, .bool false, .bool false])
  have HSO := hide (setRow_only w1 b #[.string ⟨#[]⟩, .int .i64 0, .int .i64 (flt : Int), .nilFunc, .int .i64 0, .slice none 0 0, .int .i64 0, .int .i64 0, .int .i64 0, .int .i64 0, .slice none 0 0, .nilFunc, .int .i64 0, .slice none 0 0, .int .i64 0, .int .i64 0, .int .i64 0, .map none, .pointer fp, .pointer lp, .bool false, .bool false])
  have HBK := hide hR1.blk
  unfold Is at HBK
  have HFP := hide hfp
  have HLP := hide hlp
  have HR1 := hide hR1
  have HO1 := hide hO1
  clear hR1 hO1 hfp hlp
  go_wp2_with (refine wpList_store_row rfl 101 _ _ rfl b #[.string ⟨#[]⟩, .int .i64 0, .int .i64 (flt : Int), .nilFunc, .int .i64 0, .slice none 0 0, .int .i64 0, .int .i64 0, .int .i64 0, .int .i64 0, .slice none 0 0, .nilFunc, .int .i64 0, .slice none 0 0, .int .i64 0, .int .i64 0, .int .i64 0, .map none, .pointer fp, .pointer lp, .bool false, .bool false] rfl rfl 101 _ (uh HBK) info_end rfl (Array.all_eq_true_iff_forall_mem.2 (by simp [Value.oneCell'])) ?_)
  go_end0
  refine ⟨rfl, m, hm, (uh HR1).cell (c' := downC flt (c.rs ++ [m])) ?_ ?_ rfl, (uh HO1).trans (S' := fun i => i = b) ?_ (fun i hi _ => .inl hi)⟩
  · have := uh HSI
    show Is _ b _ [.string ⟨#[]⟩, .int .i64 0, .int .i64 (flt : Int), .nilFunc, .int .i64 0, .slice none 0 0, .int .i64 0, .int .i64 0, .int .i64 0, .int .i64 0, .slice none 0 0, .nilFunc, .int .i64 0, .slice none 0 0, .int .i64 0, .int .i64 0, .int .i64 0, .map none, firstV (c.rs ++ [m]), lastV (c.rs ++ [m]), .bool false, .bool false]
    rw [uh HFP, uh HLP]
    exact this
  · exact uh HSO
  · exact uh HSO
end Go.Proofs.YtbkpdapagfjmmaaGreatDoor

namespace Go.Proofs.YtbkpdapagfjmmaaGreatDoor
open Go.RowKit
def downD (b : Nat) (rs : List Nat) (fs : List Lk.Fr) : PD := ⟨nilS, nilS, nilS, [], rs, b, 0, fun _ => .none, fs⟩
theorem downD_foot {b : Nat} {rs : List Nat} {fs : List Lk.Fr} {i : Nat} (h : foot b (downD b rs fs) i) : i = b ∨ i ∈ rs := by
  rcases h with hi | hi | hi | hi | hi | hi | hi | ⟨k, hi⟩
  · exact .inl hi
  · cases hi
  · cases hi
  · cases hi
  · cases hi
  · exact .inr hi
  · exact .inl hi
  · cases hi
theorem fall_any (b flt : Nat) (e : Lk.En) (d : PD) (w : World) (hL : Live w b e d) (hf : flt ≠ 0) :
    Calls Tryz.prog 50 #[.pointer (some ⟨b, 0, none⟩), .int .i64 (flt : Int)] w fun r w' => r = .returned (.tuple #[]) ∧ PPost w b d (e.dn flt).falls w' := by
  have hpb := hL.pos b (.inl rfl)
  have hbl := hL.rw.lt
  by_cases hby : e.byeS = true
  · have hfe : (e.dn flt).falls = e.dn flt := by
      unfold Lk.En.falls
      rw [if_neg]
      show ¬ (flt ≠ 0 ∧ e.byeS = false)
      rw [hby]
      simp
    rw [hfe]
    refine (fall_said b flt (ecOf e d) d.fs w hL.rw hby).mono ?_
    rintro r w' ⟨rfl, hR, hO⟩
    refine ⟨rfl, downD b d.rs d.fs, .inr ⟨hR, hL.rowe, hL.good, hf, ⟨rfl, rfl, rfl, rfl, rfl, fun _ => rfl⟩, hL.wf.withDown flt, fun i hi => ?_⟩, fun i hi => ?_, hO.mono (fun i hi => .inl hi)⟩
    · rcases downD_foot hi with rfl | hi
      · exact hpb
      · exact hL.pos i (.inr (.inr (.inr (.inr (.inr (.inl hi))))))
    · rcases downD_foot hi with rfl | hi
      · exact .inl (.inl rfl)
      · exact .inl (.inr (.inr (.inr (.inr (.inr (.inl hi))))))
  · have hby' : e.byeS = false := by simpa using hby
    have hfe : (e.dn flt).falls = (e.dn flt).bye := by
      unfold Lk.En.falls
      rw [if_pos]
      exact ⟨hf, hby'⟩
    rw [hfe]
    have hW : Lk.Wf (e.dn flt).bye := (hL.wf.withDown flt).bye
    have hn2 : nextOth e ≤ 268435457 := nextOth_le hL.wf
    refine (fall_unsaid b flt (nextOth e) (ecOf e d) d.fs w hL.rw hby' rfl hn2).mono ?_
    rintro r w' ⟨rfl, m, hm, hR, hO⟩
    have hlo : (e.dn flt).lastOth = nextOth e - 2 := lastOth_eq (hL.wf.withDown flt)
    have hR' : Rw w' b (ecDown (e.dn flt).bye (downD b (d.rs ++ [m]) (d.fs ++ [⟨7, 0, Lk.wire (nextOth e - 2)⟩]))) (downD b (d.rs ++ [m]) (d.fs ++ [⟨7, 0, Lk.wire (nextOth e - 2)⟩])).fs := hR
    refine ⟨rfl, downD b (d.rs ++ [m]) (d.fs ++ [⟨7, 0, Lk.wire (nextOth e - 2)⟩]), .inr ⟨hR', ?_, ?_, hf, ⟨rfl, rfl, rfl, rfl, rfl, fun _ => rfl⟩, hW, fun i hi => ?_⟩, fun i hi => ?_, hO.mono (fun i hi => ?_)⟩
    · show (e.dn flt).row ++ [Lk.packed 7 0 (Lk.wire (e.dn flt).lastOth)] = _
      rw [hlo]
      show e.row ++ _ = _
      rw [hL.rowe]
      show _ = (d.fs ++ [_]).map _
      rw [List.map_append]
      rfl
    · intro f hf'
      rcases List.mem_append.1 hf' with hf' | hf'
      · exact hL.good f hf'
      · simp at hf'
        subst hf'
        exact Lk.good_bye _ (by omega)
    · rcases downD_foot hi with rfl | hi
      · exact hpb
      · rcases List.mem_append.1 hi with hi | hi
        · exact hL.pos i (.inr (.inr (.inr (.inr (.inr (.inl hi))))))
        · simp at hi
          omega
    · rcases downD_foot hi with rfl | hi
      · exact .inl (.inl rfl)
      · rcases List.mem_append.1 hi with hi | hi
        · exact .inl (.inr (.inr (.inr (.inr (.inr (.inl hi))))))
        · simp at hi
          subst hi
          exact .inr hm
    · rcases hi with hi | hi
      · exact .inl hi
      · exact .inr (.inr (.inr (.inr (.inr (.inl hi)))))
end Go.Proofs.YtbkpdapagfjmmaaGreatDoor

namespace Go.Proofs.YtbkpdapagfjmmaaGreatDoor
open Go.RowKit
structure Said (w : World) (B : Nat) (v : Value) (evs : List EvH) : Prop where
  row : w.ownsRow B 116 5 v evs.length (evsV evs)
  hds : ∀ p ∈ evs, w.ownsRow B 112 2 p.2 p.1.hs.length (hdsV p.1.hs)
  apart : evs.Pairwise fun p q => p.2.ownBlock = none ∨ p.2.ownBlock ≠ q.2.ownBlock
def saidFoot (v : Value) (evs : List EvH) (i : Nat) : Prop := v.ownBlock = some i ∨ ∃ p ∈ evs, p.2.ownBlock = some i
theorem Said.only {S : Nat → Prop} {w w' : World} {B : Nat} {v : Value} {evs : List EvH} (h : Said w B v evs) (k : Only S w w') (hn : ∀ i, saidFoot v evs i → ¬ S i) : Said w' B v evs :=
  ⟨own_only h.row k (fun i hi => hn i (.inl hi)), fun p hp => own_only (h.hds p hp) k (fun i hi => hn i (.inr ⟨p, hp, hi⟩)), h.apart⟩
theorem Said.lt {w : World} {B : Nat} {v : Value} {evs : List EvH} (h : Said w B v evs) : ∀ i, saidFoot v evs i → B ≤ i ∧ i < w.heap.size := by
  intro i hi
  rcases hi with hi | ⟨p, hp, hi⟩
  · exact h.row.lt i hi
  · exact (h.hds p hp).lt i hi
theorem Said.nil (w : World) (B : Nat) : Said w B (.slice none 0 0) [] := ⟨World.ownsRow_nil _ _ _ _, by simp, by simp⟩
def FPost (w : World) (b : Nat) (d : PD) (e' : Lk.En) (evl : List Lk.Ev) (v : Value) (w' : World) : Prop :=
  ∃ d' evs, evs.map Prod.fst = evl ∧ PEnd w' b e' d' ∧ Said w' w.heap.size v evs ∧ (∀ i, saidFoot v evs i → ¬ foot b d' i) ∧ (∀ i, foot b d' i → foot b d i ∨ w.heap.size ≤ i) ∧ Only (foot b d) w w'
theorem Only.tight {S : Nat → Prop} {w w' : World} (h : Only (fun i => S i ∨ w.heap.size ≤ i) w w') : Only S w w' :=
  ⟨h.os, h.tape, h.output, h.size, fun i hi hn => h.block i hi (fun hx => hx.elim hn (fun h => by omega))⟩
theorem Live.again {w w' : World} {b : Nat} {e : Lk.En} {d : PD} (h : Live w b e d) {r : Lk.Bs} {x : Nat} (hr : Lk.all r = ([], 0, r)) (hI : Is w' b 101 (ecOf ((e.at r).dn x) d).cells) (hO : Only (· = b) w w') : Live w' b ((e.at r).dn x) d := by
  have hR : Rw w' b (ecOf ((e.at r).dn x) d) d.fs := h.rw.cell hI hO rfl
  have := (h.rowOp (e' := (e.at r).dn x) (rs' := d.rs) (fs' := d.fs) hR (hO.mono (fun i hi => .inl hi)) rfl rfl rfl rfl rfl h.rowe h.good ((h.wf.at hr).withDown x) (fun y hy => .inl hy)).1
  exact this
structure Fd (w W : World) (b g : Nat) (d : PD) (fv : Value) (fs : List Lk.Fr) (R : List Lk.Ev × Nat × Lk.En) (i : Nat) (e1 : Lk.En) (d1 : PD) (v1 : Value) (evs1 : List EvH) : Prop where
  up : FS W b e1 d1 g w.heap.size v1 evs1
  len : evs1.length ≤ 2 * i
  frs : W.ownsRow w.heap.size 79 3 fv fs.length (framesV fs)
  sep : ∀ x, fv.ownBlock = some x → ¬ foot b d1 x ∧ ¬ toldFoot g v1 evs1 x
  grow : ∀ i, foot b d1 i → foot b d i ∨ w.heap.size ≤ i
  only : Only (fun i => foot b d i ∨ w.heap.size ≤ i) w W
  res : (evs1.map Prod.fst ++ (e1.run (fs.drop i)).1, (e1.run (fs.drop i)).2) = R
theorem Fd.below {w W W' : World} {b g : Nat} {d : PD} {fv : Value} {fs : List Lk.Fr} {R : List Lk.Ev × Nat × Lk.En} {i : Nat} {e1 : Lk.En} {d1 : PD} {v1 : Value} {evs1 : List EvH} (h : Fd w W b g d fv fs R i e1 d1 v1 evs1) (hb : Below W.heap.size W W') : Fd w W' b g d fv fs R i e1 d1 v1 evs1 :=
  ⟨h.up.below hb, h.len, own_only h.frs (Only.of_below hb (fun _ => False)) (fun _ _ h => h), h.sep, h.grow, h.only.below hb, h.res⟩
theorem Fd.step {w W W' : World} {b g : Nat} {d : PD} {fv : Value} {fs : List Lk.Fr} {R : List Lk.Ev × Nat × Lk.En} {i : Nat} {e1 : Lk.En} {d1 : PD} {v1 : Value} {evs1 : List EvH} (h : Fd w W b g d fv fs R i e1 d1 v1 evs1) (hi : i < fs.length) (hG : GPost W b d1 g w.heap.size v1 evs1 (e1.frame fs[i]).2.2 (e1.frame fs[i]).1 W') :
    ∃ d2 v2 evs2, FS W' b (e1.frame fs[i]).2.2 d2 g w.heap.size v2 evs2 ∧ (∀ i, foot b d2 i → foot b d i ∨ w.heap.size ≤ i) ∧ Only (fun i => foot b d i ∨ w.heap.size ≤ i) w W' ∧ evs2.length ≤ 2 * (i + 1)
      ∧ ((e1.frame fs[i]).2.1 = 0 → Fd w W' b g d fv fs R (i + 1) (e1.frame fs[i]).2.2 d2 v2 evs2)
      ∧ ((e1.frame fs[i]).2.1 ≠ 0 → R = (evs2.map Prod.fst, (e1.frame fs[i]).2.1, (e1.frame fs[i]).2.2)) := by
  obtain ⟨d2, v2, news, a1, a2, a3, a4, a5⟩ := hG
  have hlen : (evs1 ++ news).length ≤ 2 * (i + 1) := by
    have h1 := Lk.En.frame_two e1 fs[i]
    rw [← a1, List.length_map] at h1
    have := h.len
    rw [List.length_append]
    omega
  have hgrow : ∀ i, foot b d2 i → foot b d i ∨ w.heap.size ≤ i := fun x hx => by
    rcases a3 x hx with h' | h'
    · exact h.grow x h'
    · exact .inr (Nat.le_trans h.only.size h')
  have honly : Only (fun i => foot b d i ∨ w.heap.size ≤ i) w W' := h.only.trans a5 (fun x hx _ => by
    rcases hx with hx | hx
    · exact h.grow x hx
    · exact .inr (h.up.toldPos x hx))
  have hd : fs.drop i = fs[i] :: fs.drop (i + 1) := List.drop_eq_getElem_cons hi
  have hres := h.res
  rw [hd, Lk.En.run] at hres
  refine ⟨d2, v2, evs1 ++ news, a2, hgrow, honly, hlen, fun h0 => ⟨a2, hlen, ?_, fun x hx => ?_, hgrow, honly, ?_⟩, fun h0 => ?_⟩
  · refine own_only h.frs a5 (fun x hx hy => ?_)
    rcases hy with hy | hy
    · exact (h.sep x hx).1 hy
    · exact (h.sep x hx).2 hy
  · have hlt := (h.frs.lt x hx).2
    refine ⟨fun hy => ?_, fun hy => ?_⟩
    · rcases a3 x hy with h' | h'
      · exact (h.sep x hx).1 h'
      · omega
    · rcases a4 x hy with h' | h'
      · exact (h.sep x hx).2 h'
      · omega
  · rw [if_neg (by rw [h0]; simp)] at hres
    rw [← hres, List.map_append, a1, List.append_assoc]
  · rw [if_pos h0] at hres
    rw [← hres, List.map_append, a1]
theorem Fd.fine {w W : World} {b g : Nat} {d d2 : PD} {e2 : Lk.En} {v2 : Value} {evs2 : List EvH} (h : FS W b e2 d2 g w.heap.size v2 evs2) (hg : ∀ i, foot b d2 i → foot b d i ∨ w.heap.size ≤ i) (hO : Only (fun i => foot b d i ∨ w.heap.size ≤ i) w W) (h0 : e2.down = 0) : FPost w b d e2 (evs2.map Prod.fst) v2 W :=
  ⟨d2, evs2, rfl, .inl ⟨h.live, h0⟩, ⟨h.told.row, h.told.hds, h.told.apart⟩, fun i hi => h.sep i (hi.elim (fun h => .inr (.inl h)) (fun h => .inr (.inr h))), hg, hO.tight⟩
theorem Fd.fell {w W W' : World} {b g : Nat} {d d2 : PD} {e2 e3 : Lk.En} {v2 : Value} {evs2 : List EvH} (h : FS W b e2 d2 g w.heap.size v2 evs2) (hg : ∀ i, foot b d2 i → foot b d i ∨ w.heap.size ≤ i) (hO : Only (fun i => foot b d i ∨ w.heap.size ≤ i) w W) (hP : PPost W b d2 e3 W') : FPost w b d e3 (evs2.map Prod.fst) v2 W' := by
  obtain ⟨d3, h1, h2, h3⟩ := hP
  have hT := h.told.only h3 h.sep
  refine ⟨d3, evs2, rfl, h1, ⟨hT.row, hT.hds, hT.apart⟩, fun i hi hf => ?_, fun i hi => ?_, (hO.trans h3 (fun i hi _ => hg i hi)).tight⟩
  · have hi' : toldFoot g v2 evs2 i := hi.elim (fun h => .inr (.inl h)) (fun h => .inr (.inr h))
    rcases h2 i hf with h' | h'
    · exact h.sep i hi' h'
    · have := h.told.lt i hi'
      omega
  · rcases h2 i hi with h' | h'
    · exact hg i h'
    · exact .inr (Nat.le_trans hO.size h')
end Go.Proofs.YtbkpdapagfjmmaaGreatDoor
