import Derived.Test.YtbkpdapagfjmmaaGreatDoorMPHT4
import Derived.Test.YtbkpdapagfjmmaaGreatDoorMT1N1
import Derived.Test.YtbkpdapagfjmmaaGreatDoorMPGW3
import Derived.Test.YtbkpdapagfjmmaaGreatDoorProg
import Derived.Lib.BufferWrite
import Derived.Lib.UnsafeStr
import Derived.Laws.MakeOwn
import Derived.Test.YtbkpdapagfjmmaaGreatDoorMSpecW0
set_option linter.unusedVariables false
set_option maxRecDepth 100000
set_option maxHeartbeats 16000000
namespace Go.Proofs.YtbkpdapagfjmmaaGreatDoor
open Go.RowKit
theorem info_rh : (Tryz.prog.info? 206).map (fun i => (i.zero, i.size, i.bytes)) = some (some (.agg #[.string ⟨#[]⟩, .string ⟨#[]⟩]), 2, 32) := by kernel_rfl
structure RTab (w : World) (t B : Nat) (L : List Lk.Hd) (v : Value) : Prop where
  blk : Is w t 196 [.int .i64 B, v]
  own : w.ownsRow 0 206 2 v L.length (hdsV L)
  le : Lk.weights L ≤ B
  hB : B ≤ 200
theorem RTab.below {w w' : World} {t B : Nat} {L : List Lk.Hd} {v : Value} (h : RTab w t B L v) (hb : Below w.heap.size w w') : RTab w' t B L v :=
  ⟨h.blk.below hb h.blk.lt, own_below h.own hb, h.le, h.hB⟩
theorem RTab.alloc {w : World} {t B : Nat} {L : List Lk.Hd} {v : Value} (h : RTab w t B L v) (o : Obj) : RTab (w.alloc o) t B L v :=
  ⟨h.blk.alloc o, h.own.alloc o, h.le, h.hB⟩
theorem RTab.len {w : World} {t B : Nat} {L : List Lk.Hd} {v : Value} (h : RTab w t B L v) : L.length ≤ 50 := by
  have := Lk.weights_len L
  have h1 := h.le
  have h2 := h.hB
  omega
theorem RTab.form {w : World} {t B : Nat} {L : List Lk.Hd} {v : Value} (h : RTab w t B L v) : ∃ a cap, v = .slice a L.length cap := by
  rcases h.own.2 with ⟨rfl, h0⟩ | ⟨g, cap, cur, rfl, _⟩
  · exact ⟨_, _, by rw [h0]⟩
  · exact ⟨_, _, rfl⟩
theorem RTab.at' {w : World} {t B i : Nat} {L : List Lk.Hd} {v : Value} {x : Lk.Hd} (h : RTab w t B L v) (hx : L[i]? = some x) :
    ∃ g cap, v = .slice (some ⟨g, 0, none⟩) L.length cap ∧ g < w.heap.size ∧ w.cell? ⟨g, i * 2, none⟩ = some (.string (bs x.n)) ∧ w.cell? ⟨g, i * 2 + 1, none⟩ = some (.string (bs x.v)) := by
  rcases owned_hds h.own with ⟨rfl, _⟩ | ⟨g, cap, rfl, _, hg, _, hc⟩
  · simp at hx
  · exact ⟨g, cap, rfl, hg, hc i x hx⟩
theorem own_base0 {w : World} {B : Nat} {e : TypeId} {size n : Nat} {v : Value} {xs : List Value} (h : w.ownsRow B e size v n xs) : w.ownsRow 0 e size v n xs := by
  refine ⟨h.1, ?_⟩
  rcases h.2 with h | ⟨g, cap, cur, h0, h1, h2⟩
  · exact .inl h
  · exact .inr ⟨g, cap, cur, h0, by omega, h2⟩
theorem row_form {w : World} {B : Nat} {e : TypeId} {size n : Nat} {v : Value} {xs : List Value} (h : w.ownsRow B e size v n xs) : ∃ a cap, v = .slice a n cap := by
  rcases h.2 with ⟨rfl, rfl⟩ | ⟨g, cap, cur, rfl, _⟩
  · exact ⟨_, _, rfl⟩
  · exact ⟨_, _, rfl⟩
theorem built_h1 (w : World) (T : TypeId) (x : Lk.Hd) : (w.alloc (.cells #[.string (bs x.n), .string (bs x.v)] T)).ownsRow w.heap.size T 2 (.slice (some ⟨w.heap.size, 0, none⟩) 1 1) 1 (hdV x) :=
  ⟨rfl, .inr ⟨w.heap.size, 1, _, rfl, Nat.le_refl _, heap_alloc_new w _, Nat.le_refl _, by unfold maxLen; omega, rfl, rfl⟩⟩
theorem rfixed_any (w : World) : Calls Tryz.prog 177 #[] w fun e w' => ∃ v', e = .returned v' ∧ w'.ownsRow w.heap.size 206 2 v' 4 (hdsV Lk.fixedL) ∧ Below w.heap.size w w' := by
  go_enter Tryz.func177, Tryz.ntmps177
  go_wp2_with fail
  go_ret
  exact ⟨_, rfl, ⟨rfl, .inr ⟨w.heap.size, 4, _, rfl, Nat.le_refl _, heap_alloc_new w _, Nat.le_refl _, by unfold maxLen; omega, rfl, rfl⟩⟩, (Below.refl _ _).alloc (Nat.le_refl _) _⟩
theorem rall_any (t B : Nat) (L : List Lk.Hd) (v : Value) (w : World) (hT : RTab w t B L v) :
    Calls Tryz.prog 150 #[.pointer (some ⟨t, 0, none⟩)] w fun e w' => ∃ v', e = .returned v' ∧ w'.ownsRow w.heap.size 206 2 v' (Lk.ents L).length (hdsV (Lk.ents L)) ∧ Below w.heap.size w w' := by
  obtain ⟨i, hi, hz0, hz1, hz2⟩ := info_parts info_rh
  have hL := hT.len
  obtain ⟨a, cap, hv⟩ := hT.form
  subst hv
  have HT := hide hT
  have htl := hT.blk.lt
  have hE := Lk.ents_len L
  generalize hEn : Lk.ents L = E at *
  have HEn := hide hEn
  have HE := hide hE
  clear hT hEn hE
  go_enter Tryz.func150, Tryz.ntmps150
  go_wp2_with fail
  refine (rfixed_any _).mono ?_
  rintro e w1 ⟨v1, rfl, ho1, hb1⟩
  have HO1 := hide ho1
  clear ho1
  go_wp2_with fail
  go_loopw [3, 4] (fun m u wr => ∃ k : Nat, u = .int .i64 k ∧ k ≤ L.length ∧ wr.ownsRow w.heap.size 206 2 m (4 + k) (hdsV (E.take (4 + k))) ∧ Below w.heap.size w wr) (fun _ u _ => L.length - (intOf u).toNat)
  case atStart =>
    refine ⟨0, rfl, by omega, ?_, hb1⟩
    have e : E.take (4 + 0) = Lk.fixedL := by rw [← uh HEn]; rfl
    rw [e]
    exact uh HO1
  case round =>
    obtain ⟨k, rfl, hk, hown, hbel⟩ := hrel
    have hsz := hbel.size
    have d1 := ((uh HT).blk.below hbel htl).cell 1
    simp only [List.getElem?_cons_zero, List.getElem?_cons_succ] at d1
    have htr : t < wr.heap.size := by omega
    by_cases hlt : k < L.length
    · have hlt' : (k : Int) < L.length := by omega
      obtain ⟨x, hx⟩ : ∃ x, L[k]? = some x := ⟨_, List.getElem?_eq_getElem hlt⟩
      obtain ⟨g, cap', hform, hg, a0, a1⟩ := (uh HT).at' hx
      cases hform
      have a0 : wr.cell? ⟨g, k * 2, none⟩ = some (.string (bs x.n)) := by rw [hbel.cell (p := ⟨g, k * 2, none⟩) hg]; exact a0
      have a1 : wr.cell? ⟨g, k * 2 + 1, none⟩ = some (.string (bs x.v)) := by rw [hbel.cell (p := ⟨g, k * 2 + 1, none⟩) hg]; exact a1
      have hgr : g < wr.heap.size := by omega
      have HX := hide hx
      clear hx
      go_wp2_with (at_builtin; refine wpList_append_own _ rfl _ _ 154 rfl w.heap.size 206 i _ 2 32 Tryz.underlying154 hi hz0 hz1 hz2 rfl (by decide) _ (4 + k) (hdsV (E.take (4 + k))) rfl (hown.alloc _) ⟨wr.heap.size, 0, none⟩ 1 1 (hdV x) rfl rfl ?hnews ?h1 ?h63 ?hby ?hba ?_)
      case hnews => exact row_cells (built_h1 wr _ x)
      case h1 => simp [hdV, Value.oneCell']
      case h63 => unfold maxLen; omega
      case hby => omega
      case hba => simp; omega
      intro v' w' ho' hg' hn'
      have hb' := (hbel.alloc hsz _).grown hg' (by simp; omega) (fun k hk => (hown.lt k hk).1)
      have ho2 : w'.ownsRow w.heap.size 206 2 v' (4 + (k + 1)) (hdsV (E.take (4 + (k + 1)))) := by
        have hEx : E[4 + k]? = some x := by rw [← uh HEn]; unfold Lk.ents; rw [List.getElem?_append_right (by simp [Lk.fixedL])]; simpa [Lk.fixedL] using uh HX
        have e : E.take (4 + (k + 1)) = E.take (4 + k) ++ [x] := by rw [← Nat.add_assoc, List.take_add_one, hEx]; rfl
        rw [e, hdsV_append]
        simpa [hdsV, Nat.add_assoc] using ho'
      clear ho' hg' hown hbel a0 a1
      go_wp2_with fail
      go_roundw
      case rel => exact ⟨k + 1, by simp, by omega, ho2, hb'⟩
      case measure => simp [intOf]; omega
    · have hlt' : ¬ (k : Int) < L.length := by omega
      have ho2 : wr.ownsRow w.heap.size 206 2 u3 E.length (hdsV E) := by
        have e : 4 + k = E.length := by have := uh HE; omega
        rw [e, List.take_length] at hown
        exact hown
      clear hown
      go_wp2_with fail
      go_ret
      exact ⟨_, rfl, ho2, hbel⟩
theorem rcopied_any (t B : Nat) (L : List Lk.Hd) (v : Value) (w : World) (hT : RTab w t B L v) :
    Calls Tryz.prog 104 #[.pointer (some ⟨t, 0, none⟩)] w fun e w' => ∃ u, e = .returned (.pointer (some ⟨u, 0, none⟩)) ∧ w.heap.size ≤ u ∧ (∃ v', RTab w' u B L v' ∧ ∀ k, v'.ownBlock = some k → w.heap.size ≤ k) ∧ Below w.heap.size w w' := by
  obtain ⟨i, hi, hz0, hz1, hz2⟩ := info_parts info_rh
  have hL := hT.len
  obtain ⟨a, cap, hv⟩ := hT.form
  subst hv
  have HT := hide hT
  have htl := hT.blk.lt
  clear hT
  go_enter Tryz.func104, Tryz.ntmps104
  go_wp2_with fail
  go_loopw [3, 4] (fun m u wr => ∃ k : Nat, u = .int .i64 k ∧ k ≤ L.length ∧ wr.ownsRow w.heap.size 206 2 m k (hdsV (L.take k)) ∧ Below w.heap.size w wr) (fun _ u _ => L.length - (intOf u).toNat)
  case atStart => exact ⟨0, rfl, by omega, World.ownsRow_nil _ _ _ _, Below.refl _ _⟩
  case round =>
    obtain ⟨k, rfl, hk, hown, hbel⟩ := hrel
    have hsz := hbel.size
    have d0 := ((uh HT).blk.below hbel htl).cell 0
    have d1 := ((uh HT).blk.below hbel htl).cell 1
    simp only [List.getElem?_cons_zero, List.getElem?_cons_succ] at d0 d1
    have htr : t < wr.heap.size := by omega
    by_cases hlt : k < L.length
    · have hlt' : (k : Int) < L.length := by omega
      obtain ⟨x, hx⟩ : ∃ x, L[k]? = some x := ⟨_, List.getElem?_eq_getElem hlt⟩
      obtain ⟨g, cap', hform, hg, a0, a1⟩ := (uh HT).at' hx
      cases hform
      have a0 : wr.cell? ⟨g, k * 2, none⟩ = some (.string (bs x.n)) := by rw [hbel.cell (p := ⟨g, k * 2, none⟩) hg]; exact a0
      have a1 : wr.cell? ⟨g, k * 2 + 1, none⟩ = some (.string (bs x.v)) := by rw [hbel.cell (p := ⟨g, k * 2 + 1, none⟩) hg]; exact a1
      have hgr : g < wr.heap.size := by omega
      have HX := hide hx
      clear hx
      go_wp2_with (at_builtin; refine wpList_append_own _ rfl _ _ 154 rfl w.heap.size 206 i _ 2 32 Tryz.underlying154 hi hz0 hz1 hz2 rfl (by decide) _ k (hdsV (L.take k)) rfl (hown.alloc _) ⟨wr.heap.size, 0, none⟩ 1 1 (hdV x) rfl rfl ?hnews ?h1 ?h63 ?hby ?hba ?_)
      case hnews => exact row_cells (built_h1 wr _ x)
      case h1 => simp [hdV, Value.oneCell']
      case h63 => unfold maxLen; omega
      case hby => omega
      case hba => simp; omega
      intro v' w' ho' hg' hn'
      have hb' := (hbel.alloc hsz _).grown hg' (by simp; omega) (fun k hk => (hown.lt k hk).1)
      have ho2 : w'.ownsRow w.heap.size 206 2 v' (k + 1) (hdsV (L.take (k + 1))) := by
        have e : L.take (k + 1) = L.take k ++ [x] := by rw [List.take_add_one, uh HX]; rfl
        rw [e, hdsV_append]
        simpa [hdsV] using ho'
      clear ho' hg' hown hbel a0 a1
      go_wp2_with fail
      go_roundw
      case rel => exact ⟨k + 1, by simp, by omega, ho2, hb'⟩
      case measure => simp [intOf]; omega
    · have hlt' : ¬ (k : Int) < L.length := by omega
      have ho2 : wr.ownsRow w.heap.size 206 2 u3 L.length (hdsV L) := by
        have e : k = L.length := by omega
        rw [e, List.take_length] at hown
        exact hown
      obtain ⟨a3, c3, h3⟩ := row_form ho2
      subst h3
      have HO2 := hide ho2
      clear hown ho2
      go_wp2_with fail
      go_ret
      refine ⟨_, rfl, hsz, ⟨.slice a3 L.length c3, ⟨Is.new wr 196 [.int .i64 B, .slice a3 L.length c3], own_base0 ((uh HO2).alloc _), (uh HT).le, (uh HT).hB⟩, fun q hq => ((uh HO2).lt q hq).1⟩, hbel.alloc hsz _⟩
end Go.Proofs.YtbkpdapagfjmmaaGreatDoor

namespace Go.Proofs.YtbkpdapagfjmmaaGreatDoor
open Go.RowKit
theorem empty_of (s : ByteArray) (h : s.size = 0) : s = ⟨#[]⟩ := ByteArray.ext (Array.eq_empty_of_size_eq_zero h)
theorem isEmpty_of (s : ByteArray) (h : 0 < s.size) : s.toList.isEmpty = false := by
  rw [ByteArray.toList_eq]
  rw [size_list] at h
  cases e : s.data.toList with
  | nil => rw [e] at h; simp at h
  | cons x t => rfl
theorem u8_info : (Tryz.prog.info? 5).map (fun i => (i.zero, i.size, i.bytes)) = some (some (.int .u8 0), 1, 1) := by kernel_rfl
theorem u8_one : Tryz.prog.cellsOf 5 = 1 := by kernel_rfl
theorem cloneLite_any (s : ByteArray) (w : World) (h : s.size ≤ 1000) :
    Calls Tryz.prog 120 #[.string s] w fun e w' => e = .returned (.string s) ∧ Below w.heap.size w w' := by
  by_cases h0 : s.size = 0
  · obtain rfl : s = ⟨#[]⟩ := ByteArray.ext (Array.eq_empty_of_size_eq_zero h0)
    go_enter Tryz.func120, Tryz.ntmps120
    go_wp2
    go_ret
    exact ⟨rfl, Below.refl _ _⟩
  have hz : ((s.size : Int) == 0) = false := by rw [beq_eq_false_iff_ne]; omega
  obtain ⟨i, hi, hi0, hi1, hi2⟩ := info_parts u8_info
  generalize hM : madeCells (Value.int .u8 0).cells (((s.size : Nat) : Int).toNat * i.size) = M
  have hMs : M.size = s.size := by rw [← hM, size_madeCells, hi1]; simp
  have hmake : ∀ W : World, (Instr.makeSlice 78 (.int .i64 (s.size : Int)) (.int .i64 (s.size : Int))).run Tryz.prog W = .ok (.slice (some ⟨W.heap.size, 0, none⟩) s.size s.size) (W.alloc (.cells M 5)) := by
    intro W
    have e := run_make (P := Tryz.prog) W 78 5 i (.int .u8 0) Tryz.underlying78 hi hi0 .i64 .i64 (s.size : Int) (s.size : Int) (by omega) (by omega) (by rw [hi2]; omega) (by omega)
    rw [hM] at e
    simpa using e
  have hg : (w.alloc (.cells M 5)).heap[w.heap.size]? = some (.cells M 5 (0, 0)) := heap_alloc_new w _
  have hcopy := Lib.run_copy_row_string (P := Tryz.prog) (w.alloc (.cells M 5)) 78 9 3 5 w.heap.size 0 s.size s.size s M 5 Tryz.underlying78 (by rw [hi]; simp [hi1]) hg (Nat.le_refl _) (by omega)
  have hrow : (M.toList.take 0 ++ Lib.byteCells s.data.toList ++ M.toList.drop (0 + s.size)) = Lib.byteCells s.data.toList := by
    rw [List.take_zero, List.nil_append, List.drop_of_length_le (by rw [Array.length_toList]; omega), List.append_nil]
  rw [hrow] at hcopy
  have hg2 : ((w.alloc (.cells M 5)).setRow w.heap.size (Lib.byteCells s.data.toList).toArray).heap[w.heap.size]? = some (.cells (Lib.byteCells s.data.toList).toArray 5 (0, 0)) := setRow_heap _ _ M _ 5 (0, 0) hg
  have hb : Below w.heap.size w ((w.alloc (.cells M 5)).setRow w.heap.size (Lib.byteCells s.data.toList).toArray) :=
    ((Below.refl _ _).alloc (Nat.le_refl _) _).trans ⟨rfl, rfl, rfl, by simp, fun k hk => setRow_other _ _ _ _ (by omega)⟩
  clear hM hg hrow
  have hIs : Is ((w.alloc (.cells M 5)).setRow w.heap.size (Lib.byteCells s.data.toList).toArray) w.heap.size 5 (Lib.byteCells s.data.toList) := hg2
  generalize hW : (w.alloc (.cells M 5)).setRow w.heap.size (Lib.byteCells s.data.toList).toArray = W at *
  have hstr := Lib.run_unsafeString_row (P := Tryz.prog) W 266 3 9 5 Tryz.underlying266 u8_one w.heap.size (Lib.byteCells s.data.toList).length (by unfold World.shape?; rw [hg2]; simp) s.data.toList
    (by intro e; have := congrArg List.length e; simp at this; exact h0 (by rw [ByteArray.size, this]; rfl)) (by rw [Lib.byteCells_length]; exact Nat.le_refl _) (by rw [Array.length_toList]; show s.size ≤ _; omega)
    (by
      intro j x hx
      have hplain : (⟨w.heap.size, 0, none⟩ : Addr).add j = ⟨w.heap.size, j, none⟩ := by unfold Addr.add; split <;> simp_all
      rw [hplain, hIs.cell j]
      simp [Lib.byteCells, hx])
  have hlen : s.data.toList.length = s.size := Array.length_toList
  rw [hlen] at hstr
  have hfin : Below w.heap.size w (W.freeze ⟨w.heap.size, 0, none⟩ s.size) := Lib.below_freeze hb (Nat.le_refl _) _
  clear hg2 hIs hW hlen hb
  go_enter Tryz.func120, Tryz.ntmps120
  go_wp2
  go_ret
  exact ⟨rfl, hfin⟩
theorem clone_any (s : ByteArray) (w : World) (h : s.size ≤ 1000) :
    Calls Tryz.prog 70 #[.string s] w fun e w' => e = .returned (.string s) ∧ Below w.heap.size w w' := by
  go_enter Tryz.func70, Tryz.ntmps70
  go_wp2_with fail
  refine (cloneLite_any s _ h).mono ?_
  rintro e w1 ⟨rfl, hb⟩
  go_wp2_with fail
  go_ret
  exact ⟨rfl, hb⟩
end Go.Proofs.YtbkpdapagfjmmaaGreatDoor

namespace Go.Proofs.YtbkpdapagfjmmaaGreatDoor
open Go.RowKit
theorem one_no (b : Nat) (T : TypeId) (s : ByteArray) (p : Nat) (more : List Value) (w : World) (hs : s.size ≤ maxLen) (hp : s.size ≤ p) (hI : Is w b T (.string s :: .int .i64 p :: more)) :
    Calls Tryz.prog 131 #[.pointer (some ⟨b, 0, none⟩)] w fun e w' => e = .returned (.tuple #[.int .u8 0, .bool false]) ∧ Is w' b T (.string s :: .int .i64 p :: more) ∧ Turns b w w' := by
  have HE := hide (fun w hI => ended_any b T s p more w hs hI)
  go_enter Tryz.func131, Tryz.ntmps131
  go_wp2_with fail
  refine (uh HE _ hI).mono ?_
  rintro e w1 ⟨rfl, n1, rfl⟩
  have hd : decide (s.size ≤ p) = true := by simp; omega
  go_wp2_with fail
  go_ret2
  exact ⟨rfl, hI.drewN _, (Turns.refl _ _).drewN _⟩
theorem one_yes (b : Nat) (T : TypeId) (s : ByteArray) (p : Nat) (more : List Value) (w : World) (hs : s.size ≤ maxLen) (hp : p < s.size) (hI : Is w b T (.string s :: .int .i64 p :: more)) :
    Calls Tryz.prog 131 #[.pointer (some ⟨b, 0, none⟩)] w fun e w' => e = .returned (.tuple #[.int .u8 (s[p].toNat : Int), .bool true]) ∧ Is w' b T (.string s :: .int .i64 ((p + 1 : Nat) : Int) :: more) ∧ Turns b w w' := by
  have HE := hide (fun w hI => ended_any b T s p more w hs hI)
  unfold maxLen at hs
  have c0 : w.cell? ⟨b, 0, none⟩ = some (.string s) := hI.cell 0
  have c1 : w.cell? ⟨b, 1, none⟩ = some (.int .i64 p) := hI.cell 1
  have f1 : w.frozen? ⟨b, 1, none⟩ = false := hI.free 1
  go_enter Tryz.func131, Tryz.ntmps131
  go_wp2_with fail
  refine (uh HE _ hI).mono ?_
  rintro e w1 ⟨rfl, n1, rfl⟩
  have hd : decide (s.size ≤ p) = false := by simp; omega
  go_wp2_with fail
  go_quiet (fail)
  go_wp2_with fail
  go_ret2
  exact ⟨rfl, (hI.drewN _).set 1 _, ((Turns.refl _ _).drewN _).set 1 _⟩
end Go.Proofs.YtbkpdapagfjmmaaGreatDoor

namespace Go.Proofs.YtbkpdapagfjmmaaGreatDoor
open Go.RowKit
theorem streamFits_any (k s : Int) (w : World) :
    Calls Tryz.prog 85 #[.int .i64 k, .int .i64 s] w fun e w' => e = .returned (.bool (Lk.streamFits k s)) ∧ w' = w := by
  go_enter Tryz.func85, Tryz.ntmps85
  go_wp2
  all_goals go_ret
  all_goals refine ⟨ret_bool ?_, rfl⟩
  all_goals unfold Lk.streamFits
  all_goals (repeat' split) <;> first | rfl | omega | (simp_all; done) | (exfalso; simp_all; omega)
theorem lengthFits_any (k n : Int) (w : World) :
    Calls Tryz.prog 86 #[.int .i64 k, .int .i64 n] w fun e w' => e = .returned (.bool (Lk.lengthFits k n)) ∧ w' = w := by
  go_enter Tryz.func86, Tryz.ntmps86
  go_wp2
  all_goals go_ret
  all_goals refine ⟨ret_bool ?_, rfl⟩
  all_goals unfold Lk.lengthFits
  all_goals (repeat' split) <;> first | rfl | omega | (simp_all; done) | (exfalso; simp_all; omega) | (simp_all; omega)
theorem askKind_any (k : Int) (w : World) :
    Calls Tryz.prog 132 #[.int .i64 k] w fun e w' => e = .returned (.int .i64 (Lk.kindErr k)) ∧ w' = w := by
  go_enter Tryz.func132, Tryz.ntmps132
  go_wp2
  all_goals go_ret
  all_goals refine ⟨ret_int ?_, rfl⟩
  all_goals unfold Lk.kindErr
  all_goals first | (rw [if_pos (by omega)]; done) | (rw [if_neg (by omega)]; done)
theorem kinds8 {k : Int} (h0 : 0 ≤ k) (h7 : k ≤ 7) : k = 0 ∨ k = 1 ∨ k = 2 ∨ k = 3 ∨ k = 4 ∨ k = 5 ∨ k = 6 ∨ k = 7 := by omega
def wantOf (k : Int) : Int × Int × Int × Int :=
  if k = 0 then (1, 268435455, 0, 64) else if k = 1 then (1, 268435455, 1, 16) else if k = 2 then (1, 268435455, 0, 16) else if k = 3 then (1, 268435455, 1, 4)
  else if k = 4 then (0, 268435455, 1, 4) else if k = 5 then (0, 0, 8, 8) else if k = 6 then (0, 0, 8, 8) else (0, 0, 1, 4)
theorem wantOf_any (k : Int) (h0 : 0 ≤ k) (h7 : k ≤ 7) (w : World) :
    Calls Tryz.prog 173 #[.int .i64 k] w fun e w' => e = .returned (.agg #[.int .i64 (wantOf k).1, .int .i64 (wantOf k).2.1, .int .i64 (wantOf k).2.2.1, .int .i64 (wantOf k).2.2.2]) ∧ Below w.heap.size w w' := by
  rcases kinds8 h0 h7 with rfl | rfl | rfl | rfl | rfl | rfl | rfl | rfl
  all_goals
    rw [wantOf]
    go_enter Tryz.func173, Tryz.ntmps173
    go_wp2
    refine bodyPost_ret (v := _) (by simp [results, Tryz.results173, go_sem]) rfl ⟨rfl, ?_⟩
    ((repeat' (first | exact Below.refl _ _ | assumption | apply Below.drew | apply Below.alloc | apply Below.setCell)) <;> (simp <;> omega))
def IsWant (k a b x y : Int) : Prop := wantOf k = (a, b, x, y)
theorem wantOf_is (k : Int) (h0 : 0 ≤ k) (h7 : k ≤ 7) (w : World) :
    Calls Tryz.prog 173 #[.int .i64 k] w fun e w' => ∃ a b x y, e = .returned (.agg #[.int .i64 a, .int .i64 b, .int .i64 x, .int .i64 y]) ∧ IsWant k a b x y ∧ Below w.heap.size w w' := by
  refine (wantOf_any k h0 h7 w).mono ?_
  rintro e w' ⟨rfl, hb⟩
  exact ⟨_, _, _, _, rfl, rfl, hb⟩
end Go.Proofs.YtbkpdapagfjmmaaGreatDoor

namespace Go.Proofs.YtbkpdapagfjmmaaGreatDoor
open Go.RowKit
theorem take_no (b : Nat) (T : TypeId) (s : ByteArray) (p n : Nat) (more : List Value) (w : World) (hs : s.size ≤ maxLen) (hp : p ≤ s.size) (hn : s.size < p + n) (hI : Is w b T (.string s :: .int .i64 p :: more)) :
    Calls Tryz.prog 137 #[.pointer (some ⟨b, 0, none⟩), .int .i64 n] w fun e w' => e = .returned (.tuple #[.string ⟨#[]⟩, .bool false]) ∧ Is w' b T (.string s :: .int .i64 (s.size : Int) :: more) ∧ Turns b w w' := by
  unfold maxLen at hs
  have c0 : w.cell? ⟨b, 0, none⟩ = some (.string s) := hI.cell 0
  have c1 : w.cell? ⟨b, 1, none⟩ = some (.int .i64 p) := hI.cell 1
  have f1 : w.frozen? ⟨b, 1, none⟩ = false := hI.free 1
  have hlt : (s.size : Int) - p < n := by omega
  go_enter Tryz.func137, Tryz.ntmps137
  go_wp2_with fail
  go_quiet (fail)
  go_wp2_with fail
  go_ret2
  exact ⟨rfl, (hI.drewN _).set 1 _, ((Turns.refl _ _).drewN _).set 1 _⟩
theorem take_yes (b : Nat) (T : TypeId) (s : ByteArray) (p n : Nat) (more : List Value) (w : World) (hs : s.size ≤ maxLen) (hn : p + n ≤ s.size) (hI : Is w b T (.string s :: .int .i64 p :: more)) :
    Calls Tryz.prog 137 #[.pointer (some ⟨b, 0, none⟩), .int .i64 n] w fun e w' => e = .returned (.tuple #[.string (s.extract p (p + n)), .bool true]) ∧ Is w' b T (.string s :: .int .i64 ((p + n : Nat) : Int) :: more) ∧ Turns b w w' := by
  unfold maxLen at hs
  have c0 : w.cell? ⟨b, 0, none⟩ = some (.string s) := hI.cell 0
  have c1 : w.cell? ⟨b, 1, none⟩ = some (.int .i64 p) := hI.cell 1
  have f1 : w.frozen? ⟨b, 1, none⟩ = false := hI.free 1
  have hlt : ¬ ((s.size : Int) - p < n) := by omega
  have hn' : (p : Int) + n ≤ s.size := by omega
  go_enter Tryz.func137, Tryz.ntmps137
  go_wp2_with fail
  go_quiet (fail)
  go_wp2_with fail
  go_quiet (fail)
  go_wp2_with fail
  go_ret2
  exact ⟨rfl, (hI.drewN _).set 1 _, ((Turns.refl _ _).drewN _).set 1 _⟩
theorem lack_any (b : Nat) (T : TypeId) (s : ByteArray) (p : Nat) (more : List Value) (w : World) (hs : s.size ≤ maxLen) (hI : Is w b T (.string s :: .int .i64 p :: more)) :
    Calls Tryz.prog 134 #[.pointer (some ⟨b, 0, none⟩)] w fun e w' => e = .returned (.int .i64 (if s.size ≤ p then 0 else 2)) ∧ ∃ n, w' = w.drewN n := by
  have HE := hide (fun w hI => ended_any b T s p more w hs hI)
  by_cases h : s.size ≤ p
  · have hd : decide (s.size ≤ p) = true := by simp; omega
    rw [if_pos h]
    go_enter Tryz.func134, Tryz.ntmps134
    go_wp2_with fail
    refine (uh HE _ hI).mono ?_
    rintro e w1 ⟨rfl, n1, rfl⟩
    go_wp2_with fail
    go_ret
    exact ⟨rfl, _, rfl⟩
  · have hd : decide (s.size ≤ p) = false := by simp; omega
    rw [if_neg h]
    go_enter Tryz.func134, Tryz.ntmps134
    go_wp2_with fail
    refine (uh HE _ hI).mono ?_
    rintro e w1 ⟨rfl, n1, rfl⟩
    go_wp2_with fail
    go_ret
    exact ⟨rfl, _, rfl⟩
end Go.Proofs.YtbkpdapagfjmmaaGreatDoor

namespace Go.Proofs.YtbkpdapagfjmmaaGreatDoor
open Go.RowKit
theorem Turns.setNew {b : Nat} {w w1 : World} (h : Turns b w w1) {a : Addr} (ha : w.heap.size ≤ a.block) (v : Value) : Turns b w (w1.setCell a v) :=
  ⟨h.os, h.tape, h.output, by simpa using h.size, fun k hk hn => (heap_setCell_other _ _ _ _ (by omega)).trans (h.block k hk hn)⟩
theorem keep_ok {T : TypeId} {more : List Value} (b : Nat) (s : ByteArray) (p q : Nat) (f : Int) (w : World) (_hs : s.size ≤ maxLen) (hq : q ≤ s.size) (hr : s.size - q ≤ 1000)
    (hI : Is w b T (.string s :: .int .i64 p :: .int .i64 f :: more)) :
    Calls Tryz.prog 89 #[.pointer (some ⟨b, 0, none⟩), .int .i64 q, .int .i64 0] w fun e w' =>
      e = .returned (.tuple #[]) ∧ Is w' b T (.string (s.extract q s.size) :: .int .i64 0 :: .int .i64 0 :: more) ∧ Turns b w w' := by
  unfold maxLen at _hs
  have HC := hide (fun w => clone_any (s.extract q s.size) w (by rw [ByteArray.size_extract]; omega))
  have c0 : w.cell? ⟨b, 0, none⟩ = some (.string s) := hI.cell 0
  have hq' : (q : Int) ≤ s.size := by omega
  go_enter Tryz.func89, Tryz.ntmps89
  go_wp2_with fail
  refine (uh HC _).mono ?_
  rintro e w1 ⟨rfl, hb⟩
  have hI1 := hI.below hb hI.lt
  have hT1 := (Turns.refl b w).below hb
  have d0 := hI1.cell 0
  have d1 := hI1.cell 1
  have d2 := hI1.cell 2
  have f0 := hI1.free 0
  have f1 := hI1.free 1
  have f2 := hI1.free 2
  simp only [List.getElem?_cons_zero, List.getElem?_cons_succ] at d0 d1 d2
  clear hb hI c0
  go_wp2_with fail
  go_end0
  exact ⟨rfl, ((hI1.set 0 _).set 1 _).set 2 _, ((hT1.set 0 _).set 1 _).set 2 _⟩
theorem keep_bad {T : TypeId} {more : List Value} (b : Nat) (s : ByteArray) (p q : Nat) (f e0 : Int) (w : World) (he : e0 ≠ 0)
    (hI : Is w b T (.string s :: .int .i64 p :: .int .i64 f :: more)) :
    Calls Tryz.prog 89 #[.pointer (some ⟨b, 0, none⟩), .int .i64 q, .int .i64 e0] w fun e w' =>
      e = .returned (.tuple #[]) ∧ Is w' b T (.string ⟨#[]⟩ :: .int .i64 0 :: .int .i64 e0 :: more) ∧ Turns b w w' := by
  have he' : (e0 == 0) = false := by simpa using he
  have d0 := hI.cell 0
  have d1 := hI.cell 1
  have d2 := hI.cell 2
  have f0 := hI.free 0
  have f1 := hI.free 1
  have f2 := hI.free 2
  simp only [List.getElem?_cons_zero, List.getElem?_cons_succ] at d0 d1 d2
  clear he
  go_enter Tryz.func89, Tryz.ntmps89
  go_wp2_with fail
  go_end0
  exact ⟨rfl, ((hI.set 0 _).set 1 _).set 2 _, (((Turns.refl _ _).set 0 _).set 1 _).set 2 _⟩
end Go.Proofs.YtbkpdapagfjmmaaGreatDoor

namespace Go.Proofs.YtbkpdapagfjmmaaGreatDoor
open Go.RowKit
theorem holds_any (a b n : Int) (w : World) :
    Calls Tryz.prog 128 #[.agg #[.int .i64 a, .int .i64 b], .int .i64 n] w fun e w' => e = .returned (.bool (decide (a ≤ n ∧ n ≤ b))) ∧ Below w.heap.size w w' := by
  go_enter Tryz.func128, Tryz.ntmps128
  go_wp2
  all_goals go_ret
  all_goals refine ⟨ret_bool ?_, ?_⟩
  all_goals first | ((repeat' (first | exact Below.refl _ _ | assumption | apply Below.drew | apply Below.alloc | apply Below.setCell)) <;> (simp <;> omega)) | (simp_all; done)
end Go.Proofs.YtbkpdapagfjmmaaGreatDoor

namespace Go.Proofs.YtbkpdapagfjmmaaGreatDoor
open Go.RowKit
theorem want_stream (a b x y : Int) (w : World) : (Instr.field 275 (.agg #[.int .i64 a, .int .i64 b, .int .i64 x, .int .i64 y]) 0).run Tryz.prog w = .ok (.agg #[.int .i64 a, .int .i64 b]) w := by kernel_rfl
theorem want_length (a b x y : Int) (w : World) : (Instr.field 275 (.agg #[.int .i64 a, .int .i64 b, .int .i64 x, .int .i64 y]) 1).run Tryz.prog w = .ok (.agg #[.int .i64 x, .int .i64 y]) w := by kernel_rfl
theorem stream_of {k a b x y s : Int} (h : IsWant k a b x y) (h0 : 0 ≤ k) (h7 : k ≤ 7) (hs0 : 0 ≤ s) (hs : s ≤ 268435455) : Lk.streamFits k s = decide (a ≤ s ∧ s ≤ b) := by
  unfold IsWant wantOf at h
  unfold Lk.streamFits
  rcases kinds8 h0 h7 with rfl | rfl | rfl | rfl | rfl | rfl | rfl | rfl <;> simp at h <;> obtain ⟨rfl, rfl, -, -⟩ := h <;> rw [Bool.eq_iff_iff] <;> simp <;> omega
theorem length_of {k a b x y n : Int} (h : IsWant k a b x y) (h0 : 0 ≤ k) (h7 : k ≤ 7) (hs0 : 0 ≤ n) (hs : n ≤ 64) : Lk.lengthFits k n = decide (x ≤ n ∧ n ≤ y) := by
  unfold IsWant wantOf at h
  unfold Lk.lengthFits
  rcases kinds8 h0 h7 with rfl | rfl | rfl | rfl | rfl | rfl | rfl | rfl <;> simp at h <;> obtain ⟨-, -, rfl, rfl⟩ := h <;> rw [Bool.eq_iff_iff] <;> simp <;> omega
theorem askStream_any (k s : Int) (h0 : 0 ≤ k) (h7 : k ≤ 7) (hs0 : 0 ≤ s) (hs : s ≤ 268435455) (w : World) :
    Calls Tryz.prog 135 #[.int .i64 k, .int .i64 s] w fun e w' => e = .returned (.int .i64 (Lk.streamErr k s)) ∧ Below w.heap.size w w' := by
  have f0 := want_stream
  go_enter Tryz.func135, Tryz.ntmps135
  go_wp2_with fail
  refine (wantOf_is k h0 h7 _).mono ?_
  rintro e w1 ⟨a, b, x, y, rfl, H, hb1⟩
  go_wp2_with fail
  refine (holds_any _ _ _ _).mono ?_
  rintro e w2 ⟨rfl, hb2⟩
  have hb := hb1.trans (hb2.mono hb1.size)
  have HS := hide (stream_of H h0 h7 hs0 hs)
  generalize decide (a ≤ s ∧ s ≤ b) = d at *
  cases d
  all_goals
    go_wp2_with fail
    go_ret
    exact ⟨ret_int (by rw [Lk.streamErr, uh HS]; rfl), hb⟩
theorem askLength_any (k n : Int) (h0 : 0 ≤ k) (h7 : k ≤ 7) (hn0 : 0 ≤ n) (w : World) :
    Calls Tryz.prog 136 #[.int .i64 k, .int .i64 n] w fun e w' => e = .returned (.int .i64 (Lk.lengthErr k n)) ∧ Below w.heap.size w w' := by
  by_cases hn : 64 < n
  · go_enter Tryz.func136, Tryz.ntmps136
    go_wp2_with fail
    go_ret
    exact ⟨ret_int (by rw [Lk.lengthErr, if_pos hn]), Below.refl _ _⟩
  have f0 := want_length
  go_enter Tryz.func136, Tryz.ntmps136
  go_wp2_with fail
  refine (wantOf_is k h0 h7 _).mono ?_
  rintro e w1 ⟨a, b, x, y, rfl, H, hb1⟩
  go_wp2_with fail
  refine (holds_any _ _ _ _).mono ?_
  rintro e w2 ⟨rfl, hb2⟩
  have hb := hb1.trans (hb2.mono hb1.size)
  have HS := hide (length_of H h0 h7 hn0 (by omega))
  generalize decide (x ≤ n ∧ n ≤ y) = d at *
  cases d
  all_goals
    go_wp2_with fail
    go_ret
    exact ⟨ret_int (by rw [Lk.lengthErr, if_neg (by omega), uh HS]; rfl), hb⟩
end Go.Proofs.YtbkpdapagfjmmaaGreatDoor
