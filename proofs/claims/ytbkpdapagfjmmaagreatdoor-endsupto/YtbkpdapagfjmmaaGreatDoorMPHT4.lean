import Derived.Test.YtbkpdapagfjmmaaGreatDoorMPGW3
import Derived.Test.YtbkpdapagfjmmaaGreatDoorMF1PB
import Derived.Test.YtbkpdapagfjmmaaGreatDoorMT1N1
import Derived.Deep.AppendLies
import Derived.Laws.IdiomCopy
import Derived.Lib.SliceRun
import Derived.Deep.RegionLaw
import Derived.Deep.DeepCutAuto
import Derived.Laws.OwnMore
set_option linter.unusedVariables false
set_option maxRecDepth 100000
set_option maxHeartbeats 16000000
namespace Go.Proofs.YtbkpdapagfjmmaaGreatDoor
open Go.RowKit
theorem bs_take (l : Lk.Bs) (n : Nat) : (bs l).extract 0 n = bs (l.take n) := by
  have e := extract_list (bs l) 0 n
  have e2 : (bs l).data.toList = l := by simp [bs]
  rw [e2, List.drop_zero, Nat.sub_zero] at e
  unfold bs at e ⊢
  rw [← e]
theorem bs_drop (l : Lk.Bs) (n : Nat) : (bs l).extract n l.length = bs (l.drop n) := by
  have e := extract_list (bs l) n l.length
  have e2 : (bs l).data.toList = l := by simp [bs]
  rw [e2, List.take_of_length_le (by rw [List.length_drop]; omega)] at e
  unfold bs at e ⊢
  rw [← e]
theorem bs_nonempty {l : Lk.Bs} (h : l ≠ []) : (bs l).toList.isEmpty = false := by
  rw [ByteArray.toList_eq]
  cases l with
  | nil => exact absurd rfl h
  | cons a t => simp [bs]
theorem Outs.drop {w : World} {os : List Lk.Ow} {ps : List Nat} (h : Outs w os ps) (R : Option Nat) : Outs w (dropL R os) (dropL R ps) := by
  cases R with
  | none => exact h
  | some i =>
    have hl := h.len
    refine ⟨?_, fun j o p ho hp => ?_⟩
    · simp only [dropL, List.length_eraseIdx]
      rw [hl]
    · simp only [dropL] at ho hp
      rw [List.getElem?_eraseIdx] at ho hp
      split at ho
      · rename_i hj; rw [if_pos hj] at hp; exact h.is j o p ho hp
      · rename_i hj; rw [if_neg hj] at hp; exact h.is (j + 1) o p ho hp
theorem Outs.set {w w' : World} {os : List Lk.Ow} {ps : List Nat} (h : Outs w os ps) {i p : Nat} {o' : Lk.Ow} (hp : ps[i]? = some p) (hn : ps.Nodup) (hI : Is w' p 173 (owV o')) (hO : ∀ q ∈ ps, q ≠ p → ∀ cs, Is w q 173 cs → Is w' q 173 cs) : Outs w' (os.set i o') ps := by
  refine ⟨by rw [List.length_set]; exact h.len, fun j o q ho hq => ?_⟩
  rcases Lk.set_get ho with ⟨rfl, rfl, _⟩ | ⟨hj, ho⟩
  · rw [hp] at hq; cases hq; exact hI
  · refine hO q (List.mem_of_getElem? hq) (fun e => ?_) _ (h.is j o q ho hq)
    subst e
    have hj1 := (List.getElem?_eq_some_iff.1 hq).1
    exact hj ((List.getElem?_inj hj1 hn).1 (hq.trans hp.symm))
theorem Apart.set {os : List Lk.Ow} (h : Apart os) {i : Nat} {o o' : Lk.Ow} (ho : os[i]? = some o) (hid : o'.id = o.id) : Apart (os.set i o') := by
  intro a b x y hx hy e
  rcases Lk.set_get hx with ⟨ha, hx', _⟩ | ⟨ha, hx'⟩ <;> rcases Lk.set_get hy with ⟨hb, hy', _⟩ | ⟨hb, hy'⟩
  · omega
  · rw [hx'] at e
    rw [ha]
    exact h _ _ _ _ ho hy' (by omega)
  · rw [hy'] at e
    rw [hb]
    exact h _ _ _ _ hx' ho (by omega)
  · exact h _ _ _ _ hx' hy' e
theorem Apart.find {os : List Lk.Ow} (h : Apart os) {i : Nat} {o : Lk.Ow} (ho : os[i]? = some o) : os.findIdx? (isId (o.id : Int)) = some i := by
  rw [List.findIdx?_eq_some_iff_getElem]
  obtain ⟨hi, e⟩ := List.getElem?_eq_some_iff.1 ho
  refine ⟨hi, by rw [e]; simp [isId], fun j hj => ?_⟩
  intro hx
  simp [isId] at hx
  have := h j i os[j] o (List.getElem?_eq_getElem (by omega)) ho (by omega)
  omega
theorem sendOut_none (b g : Nat) (w : World) (hN : Calls Tryz.prog 73 #[.pointer (some ⟨b, 3, none⟩)] w fun e w' => e = .returned (.tuple #[.pointer none, .bool false]) ∧ ∃ n, w' = w.drewN n) :
    Calls Tryz.prog 38 #[.pointer (some ⟨b, 3, none⟩), gathV g] w fun e w' => e = .returned (.bool false) ∧ ∃ n, w' = w.drewN n := by
  have HN := hide hN
  clear hN
  unfold gathV
  go_enter Tryz.func38, Tryz.ntmps38
  go_wp2_with fail
  refine (uh HN).mono ?_
  rintro e w1 ⟨rfl, n, rfl⟩
  go_wp2_with fail
  go_ret
  exact ⟨rfl, n, rfl⟩
theorem sent_world {w : World} {b p n1 nq : Nat} {T : TypeId} {cs : List Value} {o : Lk.Ow} {x y z u : Value} (hI : Is w b T cs) (hIp : Is w p 173 (owV o)) (hpb : p ≠ b) :
    Is ((((((w.drewN n1).setCell ⟨b, 8, none⟩ x).drewN nq).setCell ⟨p, 2, none⟩ y).setCell ⟨p, 1, none⟩ z).setCell ⟨b, 9, none⟩ u) b T ((cs.set 8 x).set 9 u)
    ∧ Is ((((((w.drewN n1).setCell ⟨b, 8, none⟩ x).drewN nq).setCell ⟨p, 2, none⟩ y).setCell ⟨p, 1, none⟩ z).setCell ⟨b, 9, none⟩ u) p 173 [.int .i64 (o.id : Int), z, y]
    ∧ Only (fun i => i = b ∨ i = p) w ((((((w.drewN n1).setCell ⟨b, 8, none⟩ x).drewN nq).setCell ⟨p, 2, none⟩ y).setCell ⟨p, 1, none⟩ z).setCell ⟨b, 9, none⟩ u) := by
  refine ⟨?_, ?_, ?_⟩
  · have h1 := ((hI.drewN n1).set 8 x).drewN nq
    exact (((h1.other ⟨p, 2, none⟩ y (fun e => hpb e.symm)).other ⟨p, 1, none⟩ z (fun e => hpb e.symm)).set 9 u)
  · have h1 := ((hIp.drewN n1).other ⟨b, 8, none⟩ x hpb).drewN nq
    exact ((h1.set 2 y).set 1 z).other ⟨b, 9, none⟩ u hpb
  · exact ((((((Only.refl _ w).drewN n1).set b 8 x (fun _ => .inl rfl)).drewN nq).set p 2 y (fun _ => .inr rfl)).set p 1 z (fun _ => .inr rfl)).set b 9 u (fun _ => .inl rfl)
theorem sent_state {w W : World} {b Bo B p i : Nat} {T : TypeId} {cs : List Value} {v x u : Value} {o o' : Lk.Ow} {os : List Lk.Ow} {ps : List Nat} (hI : Is w b T cs) (hT : T ≠ 169) (hT2 : T ≠ 173) (hO : Outs w os ps) (hnd : ps.Nodup) (hpi : ps[i]? = some p)
    (ho : w.ownsRow Bo 169 1 v ps.length (ps.map ptr)) (h10 : cs[10]? = some v) (hb : b < B) (hpB : ∀ x ∈ ps, x < B) (hW : Is W b T ((cs.set 8 x).set 9 u) ∧ Is W p 173 (owV o') ∧ Only (fun i => i = b ∨ i = p) w W) (hoi : os[i]? = some o) :
    Outs W (os.set i o') ps ∧ W.ownsRow Bo 169 1 v ps.length (ps.map ptr) ∧ ((cs.set 8 x).set 9 u)[10]? = some v ∧ (∀ j, (j = b ∨ j = p) → j < B) := by
  obtain ⟨h1, h2, h3⟩ := hW
  have hp : p ∈ ps := List.mem_of_getElem? hpi
  refine ⟨hO.set hpi hnd h2 (fun q hq hne c hc => hc.only h3 (fun hx => ?_)), own_only ho h3 (fun j hj hx => ?_), ?_, fun j hj => ?_⟩
  · rcases hx with hx | hx
    · subst hx; exact hI.ne hc hT2 rfl
    · exact hne hx
  · rcases hx with hx | hx
    · subst hx; exact own_ne ho hI hT hj.symm
    · subst hx
      exact own_ne ho (hO.is i o _ hoi hpi) (nbq rfl) hj.symm
  · rw [List.getElem?_set_ne (by omega), List.getElem?_set_ne (by omega)]; exact h10
  · rcases hj with rfl | rfl
    · exact hb
    · exact hpB _ hp
def sentOw (all : Nat) (o : Lk.Ow) : Lk.Ow := ⟨o.id, o.left.drop (mostN all o), o.cr - mostN all o, o.done⟩
def overN (all : Nat) (o : Lk.Ow) (i : Nat) : Option Nat := if mostN all o = o.left.length then some i else none
def bodyN (all : Nat) (o : Lk.Ow) : Lk.Fr := ⟨if mostN all o = o.left.length then 2 else 1, o.id, o.left.take (mostN all o)⟩
theorem sendOut_some (b B Bo g i p all turn : Nat) (T : TypeId) (cs : List Value) (v : Value) (o : Lk.Ow) (os : List Lk.Ow) (ps : List Nat) (xs : Lk.Bs) (w : World) (hI : Is w b T cs) (hT : T ≠ 169) (hT2 : T ≠ 173) (h10 : cs[10]? = some v) (h9 : cs[9]? = some (.int .i64 (all : Int))) (h8 : cs[8]? = some (.int .i64 (turn : Int)))
    (hO : Outs w os ps) (hnd : ps.Nodup) (ha : Apart os) (ho : w.ownsRow Bo 169 1 v ps.length (ps.map ptr)) (h4 : ps.length ≤ 1000) (hoi : os[i]? = some o) (hpi : ps[i]? = some p)
    (hN : Calls Tryz.prog 73 #[.pointer (some ⟨b, 3, none⟩)] w fun e w' => e = .returned (.tuple #[.pointer (some ⟨p, 0, none⟩), .bool true]) ∧ ∃ n, w' = w.drewN n)
    (hG : Gath w g B xs) (hg : B ≤ g) (hb : b < B) (hpB : ∀ x ∈ ps, x < B) (hvB : ∀ x, v.ownBlock = some x → x < B) (hl : xs.length ≤ 2 ^ 44) (hid : o.id ≤ 268435455) (hal : all ≤ 1000000) (hcr : o.cr ≤ 1000000) (hll : o.left.length ≤ 1000) :
    Calls Tryz.prog 38 #[.pointer (some ⟨b, 3, none⟩), gathV g] w fun e w' => e = .returned (.bool true) ∧
      ∃ v', Is w' b T (((cs.set 8 (.int .i64 (o.id : Int))).set 9 (.int .i64 ((all - mostN all o : Nat) : Int))).set 10 v') ∧ w'.ownsRow Bo 169 1 v' (dropL (overN all o i) ps).length ((dropL (overN all o i) ps).map ptr) ∧ v'.ownBlock = v.ownBlock
        ∧ Outs w' (dropL (overN all o i) (os.set i (sentOw all o))) (dropL (overN all o i) ps) ∧ Gath w' g B (xs ++ (bodyN all o).pack) ∧ Only (fun x => x = b ∨ some x = v.ownBlock ∨ x ∈ ps ∨ B ≤ x) w w' := by
  have hIp := hO.is i o p hoi hpi
  have hpb : p ≠ b := fun e => by subst e; exact hI.ne hIp hT2 rfl
  have hpl := hIp.lt
  have hbl := hI.lt
  have p0 := hIp.cell 0
  have p1 := hIp.cell 1
  have p2 := hIp.cell 2
  have q1 := hIp.free 1
  have q2 := hIp.free 2
  simp only [owV, List.getElem?_cons_zero, List.getElem?_cons_succ] at p0 p1 p2
  have c9 : w.cell? ⟨b, 9, none⟩ = some (.int .i64 (all : Int)) := by rw [hI.cell]; exact h9
  have c8 : w.cell? ⟨b, 8, none⟩ = some (.int .i64 (turn : Int)) := by rw [hI.cell]; exact h8
  have f8 := hI.free 8
  have f9 := hI.free 9
  have hIp1 := hIp.other ⟨b, 8, none⟩ (.int .i64 (o.id : Int)) hpb
  have hI1 := hI.set 8 (.int .i64 (o.id : Int))
  have c9' : (w.setCell ⟨b, 8, none⟩ (.int .i64 (o.id : Int))).cell? ⟨b, 9, none⟩ = some (.int .i64 (all : Int)) := by rw [hI1.cell, List.getElem?_set_ne (by omega)]; exact h9
  have hbs := bs_size o.left
  have hmn1 : mostN all o ≤ o.left.length := by unfold mostN; omega
  have hmn2 : mostN all o ≤ o.cr := by unfold mostN; omega
  have hmn3 : mostN all o ≤ all := by unfold mostN; omega
  have hmn4 : mostN all o ≤ 16 := by unfold mostN; omega
  have HM := hide (fun n m => most_any b p all o (((w.drewN n).setCell ⟨b, 8, none⟩ (.int .i64 (o.id : Int))).drewN m) (by simpa using hbl) c9' hIp1)
  have HN := hide hN
  have HI := hide hI
  have HO := hide hO
  have HOW := hide ho
  have HG := hide hG
  have HH := hide (⟨h10, h9, h8⟩ : cs[10]? = some v ∧ cs[9]? = some (.int .i64 (all : Int)) ∧ cs[8]? = some (.int .i64 (turn : Int)))
  have HIP := hide hIp
  have HAA := hide ha
  have HPB := hide hpB
  have HND := hide hnd
  have HOI := hide hoi
  have HPI := hide hpi
  have HVB := hide hvB
  clear hN hI hO ho hG h10 h9 h8 hIp ha hpB hnd hoi hpi hvB hIp1 hI1 c9'
  have ht1 := bs_take o.left (mostN all o)
  have ht2 := bs_drop o.left (mostN all o)
  have hts : (bs (o.left.take (mostN all o))).size = mostN all o := by rw [bs_size, List.length_take]; omega
  unfold sentOw overN bodyN
  generalize mostN all o = n at *
  have hW := fun n1 nq => sent_world (n1 := n1) (nq := nq) (x := .int .i64 (o.id : Int)) (y := .string (bs (o.left.drop n))) (z := .int .i64 ((o.cr : Int) - (n : Int))) (u := .int .i64 ((all : Int) - (n : Int))) (uh HI) (uh HIP) hpb
  have hcrn : ((o.cr : Int) - (n : Int)) = ((o.cr - n : Nat) : Int) := by omega
  have haln : ((all : Int) - (n : Int)) = ((all - n : Nat) : Int) := by omega
  have HW := hide hW
  have HCR := hide hcrn
  have HAL := hide haln
  clear hW hcrn haln
  by_cases hov : n = o.left.length
  · have hdr : bs (o.left.drop n) = ⟨#[]⟩ := by rw [hov, List.drop_length]; rfl
    simp only [if_pos hov]
    have HOV := hide hov
    clear hov
    unfold gathV
    go_enter Tryz.func38, Tryz.ntmps38
    go_wp2_with fail
    refine (uh HN).mono ?_
    rintro e w1 ⟨rfl, n1, rfl⟩
    go_wp2_with fail
    go_quiet ((go_at_call 74; exact Calls.quiet_of (uh HM _ _)))
    go_wp2_with fail
    have hW1 := uh HW n1 nq
    rw [hdr, uh HCR, uh HAL] at hW1
    have hst := sent_state (o := o) (o' := ⟨o.id, o.left.drop n, o.cr - n, o.done⟩) (uh HI) hT hT2 (uh HO) (uh HND) (uh HPI) (uh HOW) (uh HH).1 hb (uh HPB) ⟨hW1.1, by unfold owV; rw [hdr]; exact hW1.2.1, hW1.2.2⟩ (uh HOI)
    obtain ⟨hO1, ho1, h101, hS⟩ := hst
    obtain ⟨hI1, hIp1, hOn1⟩ := hW1
    have hG1 := (uh HG).only hOn1 hS hg
    have hap := (uh HAA).set (o' := ⟨o.id, o.left.drop n, o.cr - n, o.done⟩) (uh HOI) rfl
    have hfi := hap.find (i := i) (o := ⟨o.id, o.left.drop n, o.cr - n, o.done⟩) (by rw [List.getElem?_set_self (List.getElem?_eq_some_iff.1 (uh HOI)).1])
    rw [uh HCR, uh HAL]
    refine (drop_any b Bo T _ v (os.set i ⟨o.id, o.left.drop n, o.cr - n, o.done⟩) ps (o.id : Int) (some i) _ hI1 hT hT2 h101 hO1 ho1 h4 hap hfi).mono ?_
    rintro e w2 ⟨rfl, v2, hI2, ho2, hv2, hO2, hOn2⟩
    have hIp2 := hO2.is i ⟨o.id, o.left.drop n, o.cr - n, o.done⟩ p (by rw [List.getElem?_set_self (List.getElem?_eq_some_iff.1 (uh HOI)).1]) (uh HPI)
    have p0 := hIp2.cell 0
    simp only [owV, List.getElem?_cons_zero] at p0
    have hpl2 := hIp2.lt
    have hOw2 : Only (fun x => x = b ∨ some x = v.ownBlock ∨ x ∈ ps ∨ B ≤ x) w w2 := (hOn1.mono (fun x hx => by
      rcases hx with hx | hx
      · exact .inl hx
      · exact .inr (.inr (.inl (hx ▸ List.mem_of_getElem? (uh HPI)))))).trans hOn2 (fun x hx _ => by
      rcases hx with hx | hx
      · exact .inl hx
      · exact .inr (.inl hx))
    have hG2 := hG1.only hOn2 (fun x hx => by
      rcases hx with hx | hx
      · omega
      · exact uh HVB x hx.symm) hg
    have HC := hide (gather_any g B xs ⟨2, o.id, o.left.take n⟩ w2 hG2 hg hl (by simp) hid (by simp; omega))
    have HI2 := hide hI2
    have HO2 := hide (⟨ho2, hv2, hO2, hOw2⟩ : _ ∧ _ ∧ _ ∧ _)
    clear hI1 hIp1 hOn1 hO1 ho1 h101 hS hG1 hap hfi hI2 ho2 hO2 hOn2 hIp2 hOw2 hG2
    go_wp2_with fail
    refine (uh HC).mono ?_
    rintro e w3 ⟨rfl, hG3, hb3⟩
    go_wp2_with fail
    go_ret
    obtain ⟨ho2, hv2, hO2, hOw2⟩ := uh HO2
    have hO3 := (hO2.drop (some i)).only (Only.of_belowB hb3) (fun q hq hx => by
      have := uh HPB q (List.mem_of_mem_eraseIdx hq)
      omega)
    refine ⟨rfl, v2, (uh HI2).below hb3 hb, own_only ho2 (Only.of_belowB hb3) (fun q hq hx => ?_), hv2, hO3, hG3, hOw2.trans (Only.of_belowB hb3) (fun q hq _ => .inr (.inr (.inr hq)))⟩
    rw [hv2] at hq
    have := uh HVB q hq
    omega
  · have hdr : (bs (o.left.drop n)).toList.isEmpty = false := bs_nonempty (fun e => hov (by have := congrArg List.length e; rw [List.length_drop] at this; simp at this; omega))
    simp only [if_neg hov]
    unfold gathV
    go_enter Tryz.func38, Tryz.ntmps38
    go_wp2_with fail
    refine (uh HN).mono ?_
    rintro e w1 ⟨rfl, n1, rfl⟩
    go_wp2_with fail
    go_quiet ((go_at_call 74; exact Calls.quiet_of (uh HM _ _)))
    go_wp2_with fail
    have hW1 := uh HW n1 nq
    rw [uh HCR, uh HAL] at hW1
    have hst := sent_state (o := o) (o' := ⟨o.id, o.left.drop n, o.cr - n, o.done⟩) (uh HI) hT hT2 (uh HO) (uh HND) (uh HPI) (uh HOW) (uh HH).1 hb (uh HPB) hW1 (uh HOI)
    obtain ⟨hO1, ho1, h101, hS⟩ := hst
    obtain ⟨hI1, hIp1, hOn1⟩ := hW1
    have hG1 := (uh HG).only hOn1 hS hg
    rw [uh HCR, uh HAL]
    refine (gather_any g B xs ⟨1, o.id, o.left.take n⟩ _ hG1 hg hl (by simp) hid (by simp; omega)).mono ?_
    rintro e w3 ⟨rfl, hG3, hb3⟩
    have HF := hide (⟨hI1, ho1, hO1, hOn1, h101, hG3⟩ : _ ∧ _ ∧ _ ∧ _ ∧ _ ∧ _)
    clear hI1 hIp1 ho1 hO1 hOn1 h101 hG3 hG1 hS
    go_wp2_with fail
    go_ret
    obtain ⟨hI1, ho1, hO1, hOn1, h101, hG3⟩ := uh HF
    refine ⟨rfl, v, ?_, own_only ho1 (Only.of_belowB hb3) (fun q hq hx => ?_), rfl, hO1.only (Only.of_belowB hb3) (fun q hq hx => ?_), hG3, ?_⟩
    · rw [set_self h101]
      exact hI1.below hb3 hb
    · have := uh HVB q hq
      omega
    · have := uh HPB q hq
      omega
    · refine (hOn1.mono (fun x hx => ?_)).trans (Only.of_belowB hb3) (fun q hq _ => .inr (.inr (.inr hq)))
      rcases hx with hx | hx
      · exact .inl hx
      · exact .inr (.inr (.inl (hx ▸ List.mem_of_getElem? (uh HPI))))
end Go.Proofs.YtbkpdapagfjmmaaGreatDoor

namespace Go.Proofs.YtbkpdapagfjmmaaGreatDoor
open Go.RowKit
theorem info_hd : (Tryz.prog.info? 112).map (fun i => (i.zero, i.size, i.bytes)) = some (some (.agg #[.string ⟨#[]⟩, .string ⟨#[]⟩]), 2, 32) := by kernel_rfl
theorem clear_one (g m cap : Nat) (W : World) (hc : ∀ j, j < 2 → (W.cell? ⟨g, m * 2 + j, none⟩).isSome = true) (hf : ∀ j, j < 2 → W.frozen? ⟨g, m * 2 + j, none⟩ = false) :
    (Builtin.clear_ #[42] 0 #[.slice (some ⟨g, m * 2, none⟩) 1 cap]).run Tryz.prog W = .ok (.tuple #[]) (W.setCells g (m * 2) [.string ⟨#[]⟩, .string ⟨#[]⟩]) := by
  obtain ⟨i, hi, hz0, hz1, hz2⟩ := info_parts info_hd
  have hst := run_storeCells_cells (P := Tryz.prog) g (m * 2) [.string ⟨#[]⟩, .string ⟨#[]⟩] 0 W (by simpa using hc) (by simpa using hf) (by simp [Value.oneCell'])
  simp only [Nat.add_zero] at hst
  simp [Builtin.clear_, run_underlying Tryz.underlying42, zeroValue, typeInfo, hi, hz0, Builtin.zeroCells, Value.cells, List.range_succ, hst]
theorem hdsV_take : ∀ (L : List Lk.Hd) (m : Nat), (hdsV L).take (m * 2) = hdsV (L.take m)
  | [], m => by simp [hdsV]
  | x :: L, 0 => by simp [hdsV]
  | x :: L, m + 1 => by
    have e : (m + 1) * 2 = m * 2 + 2 := by omega
    have ih := hdsV_take L m
    simp only [hdsV] at ih
    simp only [hdsV, List.flatMap_cons, List.take_succ_cons, hdV, e]
    simp [ih]
theorem del_post {W : World} {B g m cap : Nat} {L : List Lk.Hd} {cur : Array Value} {x y : Value} (hBg : B ≤ g) (hL : L.length = m + 1) (hmc : m ≤ cap) (hcm : cap ≤ maxLen) (hcs : cur.size = cap * 2) (HT : cur.toList.take ((m + 1) * 2) = hdsV L)
    (hI : Is W g 112 ((cur.toList.set (m * 2) x).set (m * 2 + 1) y)) :
    W.ownsRow B 112 2 (.slice (some ⟨g, 0, none⟩) m cap) m (hdsV (L.take m)) := by
  refine ⟨by rw [hdsV_len, List.length_take, Nat.min_eq_left (by omega)], .inr ⟨g, cap, _, rfl, hBg, hI, hmc, hcm, by simpa using hcs, ?_⟩⟩
  rw [← hdsV_take, ← HT, List.take_take, Nat.min_eq_left (by omega)]
  rw [List.toList_toArray, List.take_set_of_le (by omega), List.take_set_of_le (by omega)]
theorem delete_last (g m cap B : Nat) (L : List Lk.Hd) (w : World) (hL : L.length = m + 1) (hm : m ≤ 1000)
    (own : w.ownsRow B 112 2 (.slice (some ⟨g, 0, none⟩) (m + 1) cap) (m + 1) (hdsV L)) :
    Calls Tryz.prog 185 #[.slice (some ⟨g, 0, none⟩) (m + 1) cap, .int .i64 m, .int .i64 ((m : Int) + 1)] w fun e w' =>
      e = .returned (.slice (some ⟨g, 0, none⟩) m cap) ∧ w'.ownsRow B 112 2 (.slice (some ⟨g, 0, none⟩) m cap) m (hdsV (L.take m)) ∧ w.grownBy w' (some g) := by
  obtain ⟨cur, hBg, hg, hn, hcm, hcs, ht⟩ : ∃ cur : Array Value, B ≤ g ∧ w.heap[g]? = some (.cells cur 112 (0, 0)) ∧ m + 1 ≤ cap ∧ cap ≤ maxLen ∧ cur.size = cap * 2 ∧ cur.toList.take ((m + 1) * 2) = hdsV L := by
    rcases own.2 with ⟨h, _⟩ | ⟨_, _, cur, h, h1, h2, h3, h4, h5, h6⟩
    · cases h
    · cases h; exact ⟨cur, h1, h2, h3, h4, h5, h6⟩
  have hI : Is w g 112 cur.toList := by unfold Is; simpa using hg
  have hm0 : 0 ≤ (m : Int) + 1 := by omega
  have hcl := fun c => clear_one g m c w.drew (fun j hj => by
    have := (hI.drew).cell (m * 2 + j)
    rw [this, List.getElem?_eq_getElem (by simp; omega)]; rfl) (fun j _ => (hI.drew).free _)
  have hI2 := (hI.drew.set (m * 2) (.string ⟨#[]⟩)).set (m * 2 + 1) (.string ⟨#[]⟩)
  have hne : ¬ cap = m := by omega
  have hmc : m ≤ cap := by omega
  simp only [World.setCells] at hcl
  have HT := hide ht
  have HI2 := hide hI2
  have HI := hide hI
  clear own hg ht hI2 hI
  by_cases hcap : cap = m + 1
  · subst hcap
    go_enter Tryz.func185, Tryz.ntmps185
    go_wp2_with fail
    go_region
    go_wp2_with fail
    go_ret
    exact ⟨rfl, del_post hBg hL hmc hcm hcs (uh HT) (uh HI2), (((Turns.refl g w).drew).set _ _).set _ _⟩
  · go_enter Tryz.func185, Tryz.ntmps185
    go_wp2_with fail
    go_region
    go_wp2_with fail
    go_ret
    exact ⟨rfl, del_post hBg hL hmc hcm hcs (uh HT) (uh HI2), (((Turns.refl g w).drew).set _ _).set _ _⟩
end Go.Proofs.YtbkpdapagfjmmaaGreatDoor

namespace Go.Proofs.YtbkpdapagfjmmaaGreatDoor
open Go.RowKit
theorem oneCell_hds (L : List Lk.Hd) : ∀ u ∈ hdsV L, u.oneCell' = true := by
  intro u hu
  simp only [hdsV, List.mem_flatMap, hdV] at hu
  obtain ⟨x, _, hx⟩ := hu
  simp at hx
  rcases hx with rfl | rfl <;> rfl
theorem row_cells {w : World} {B : Nat} {T : TypeId} {g n cap : Nat} {xs : List Value} (h : w.ownsRow B T 2 (.slice (some ⟨g, 0, none⟩) n cap) n xs) : ∀ j u, xs[j]? = some u → w.cell? ((⟨g, 0, none⟩ : Addr).add j) = some u := by
  intro j u hu
  rcases h.2 with ⟨h, _⟩ | ⟨_, _, cur, h, h1, h2, h3, h4, h5, h6⟩
  · cases h
  · cases h
    have hplain : (⟨g, 0, none⟩ : Addr).add j = ⟨g, j, none⟩ := by unfold Addr.add; split <;> simp_all
    have hI : Is w g T cur.toList := by unfold Is; simpa using h2
    rw [hplain, hI.cell j]
    rw [← h6] at hu
    rw [List.getElem?_take] at hu
    split at hu
    · exact hu
    · cases hu
end Go.Proofs.YtbkpdapagfjmmaaGreatDoor

namespace Go.Proofs.YtbkpdapagfjmmaaGreatDoor
open Go.RowKit
theorem row_cells_at {w : World} {B : Nat} {T : TypeId} {size g n cap : Nat} {xs : List Value} (h : w.ownsRow B T size (.slice (some ⟨g, 0, none⟩) n cap) n xs) : ∀ j u, xs[j]? = some u → w.cell? ((⟨g, 0, none⟩ : Addr).add j) = some u := by
  intro j u hu
  rcases h.2 with ⟨h, _⟩ | ⟨_, _, cur, h, h1, h2, h3, h4, h5, h6⟩
  · cases h
  · cases h
    have hplain : (⟨g, 0, none⟩ : Addr).add j = ⟨g, j, none⟩ := by unfold Addr.add; split <;> simp_all
    have hI : Is w g T cur.toList := by unfold Is; simpa using h2
    rw [hplain, hI.cell j]
    rw [← h6] at hu
    rw [List.getElem?_take] at hu
    split at hu
    · exact hu
    · cases hu
theorem built_hd (w : World) (T : TypeId) (x : Lk.Hd) : (w.alloc (.cells #[.string (bs x.n), .string (bs x.v)] T)).ownsRow w.heap.size T 2 (.slice (some ⟨w.heap.size, 0, none⟩) 1 1) 1 (hdV x) :=
  ⟨rfl, .inr ⟨w.heap.size, 1, _, rfl, Nat.le_refl _, heap_alloc_new w _, Nat.le_refl _, by unfold maxLen; omega, rfl, rfl⟩⟩
section
variable {P : Program} (w : World)
theorem wp_append_row {o : Oper} {a : Act} {K : Act → World → Prop} {Q : Exit → Act → World → Prop} (s x : Operand) (t : TypeId)
    (ho : o.op = .call { callee := .builtin .append, args := #[s, x], argTypes := #[t, t] })
    (base : Nat) (e : TypeId) (i : TypeInfo) (z : Value) (size bytes : Nat) (ht : P.underlying t = some (.slice e)) (hi : P.info? e = some i) (hz : i.zero = some z)
    (hsize : i.size = size) (hby : i.bytes = bytes) (hzs : z.cells.size = size) (hsz : 0 < size)
    (v : Value) (n : Nat) (xs : List Value) (hs : a.eval s = v) (hown : w.ownsRow base e size v n xs)
    (B' : Nat) (src : Value) (m : Nat) (news : List Value) (hx : a.eval x = src) (hsrc : w.ownsRow B' e size src m news) (h1 : ∀ u ∈ news, u.oneCell' = true)
    (h63 : n + m ≤ maxLen) (hbytes : (n + m) * bytes ≤ 140737488355328) (hbase : base ≤ w.heap.size)
    (h : ∀ v' w', w'.ownsRow base e size v' (n + m) (xs ++ news) → w.grownBy w' v.ownBlock → K (a.put o.dst v') w') : Oper.wp P o a w K Q := by
  rcases hsrc.2 with ⟨rfl, rfl⟩ | ⟨g, cap, cur, rfl, _⟩
  · have hr := run_append_owned_none (P := P) w base t o.type e i size ht hi v n xs hown
    obtain rfl : news = [] := List.eq_nil_of_length_eq_zero (by simpa using hsrc.1)
    unfold Oper.wp execOp
    simp only [ho, resolve, invoke, builtin, Sem.run_bind, Sem.run_pure, Result.andThen_ok, List.map_toArray, List.map_cons, List.map_nil, hs, hx, hr]
    exact h v w (by simpa using hown) (World.grownBy.refl w _)
  · exact wp_append_own w s x t ho base e i z size bytes ht hi hz hsize hby hzs hsz v n xs hs hown ⟨g, 0, none⟩ m cap news hx hsrc.1 (row_cells_at hsrc) h1 h63 hbytes hbase (fun v' w' h2 h3 _ => h v' w' h2 h3)
theorem step_append_row {ops : Array Oper} {o : Oper} {a : Act} {K : Act → World → Prop} {Q : Exit → Act → World → Prop} {E : Prop} (hgd : o.guard = none) (s x : Operand) (t : TypeId)
    (ho : o.op = .call { callee := .builtin .append, args := #[s, x], argTypes := #[t, t] })
    (base : Nat) (e : TypeId) (i : TypeInfo) (z : Value) (size bytes : Nat) (ht : P.underlying t = some (.slice e)) (hi : P.info? e = some i) (hz : i.zero = some z)
    (hsize : i.size = size) (hby : i.bytes = bytes) (hzs : z.cells.size = size) (hsz : 0 < size)
    (v : Value) (n : Nat) (xs : List Value) (hs : a.eval s = v) (hown : w.ownsRow base e size v n xs)
    (B' : Nat) (src : Value) (m : Nat) (news : List Value) (hx : a.eval x = src) (hsrc : w.ownsRow B' e size src m news) (h1 : ∀ u ∈ news, u.oneCell' = true)
    (h63 : n + m ≤ maxLen) (hbytes : (n + m) * bytes ≤ 140737488355328) (hbase : base ≤ w.heap.size)
    (h : ∀ v' w', w'.ownsRow base e size v' (n + m) (xs ++ news) → w.grownBy w' v.ownBlock → K (a.put o.dst v') w') :
    if Region.wanted o (yielded ops a.tmps) = true then Oper.wp P o a w K Q else E := by
  have hw : Region.wanted o (yielded ops a.tmps) = true := by simp [Region.wanted, hgd]
  rw [if_pos hw]
  exact wp_append_row w s x t ho base e i z size bytes ht hi hz hsize hby hzs hsz v n xs hs hown B' src m news hx hsrc h1 h63 hbytes hbase h
end
end Go.Proofs.YtbkpdapagfjmmaaGreatDoor
