import Derived.Test.YtbkpdapagfjmmaaGreatDoorA5
import Derived.Laws.IdiomCopy
import Derived.Deep.RegionWith
set_option linter.unusedVariables false
set_option maxRecDepth 100000
set_option maxHeartbeats 16000000
namespace Go.Proofs.YtbkpdapagfjmmaaGreatDoor
open Go.RowKit
theorem IM : (Tryz.prog.info? 169).map (fun i => (i.zero, i.size, i.bytes)) = some (some (.pointer none), 1, 8) := by kernel_rfl
theorem IP (g m cap : Nat) (W : World) (hc : (W.cell? ⟨g, m, none⟩).isSome = true) (hf : W.frozen? ⟨g, m, none⟩ = false) :
 (Builtin.clear_ #[91] 0 #[.slice (some ⟨g, m, none⟩) 1 cap]).run Tryz.prog W = .ok (.tuple #[]) (W.setCell ⟨g, m, none⟩ (.pointer none)) := by
 obtain ⟨i, hi, hz0, hz1, hz2⟩ := info_parts IM
 have hst := run_storeCells_cells (P := Tryz.prog) g m [.pointer none] 0 W (by simpa using hc) (by simpa using hf) (by simp [Value.oneCell'])
 simp only [Nat.add_zero, World.setCells] at hst
 simp [Builtin.clear_, run_underlying Tryz.underlying91, zeroValue, typeInfo, hi, hz0, Builtin.zeroCells, Value.cells, List.range_succ, hst]
def jf (ps : List Nat) (i a : Nat) : List Nat := (ps.eraseIdx i).take a ++ ps.drop a
theorem zD (ps : List Nat) (i : Nat) (hi : i < ps.length) : jf ps i i = ps := by
 unfold jf
 rw [List.eraseIdx_eq_take_drop_succ, List.take_append_of_le_length (by simp; omega), List.take_take, Nat.min_self, List.take_append_drop]
theorem oU (ps : List Nat) (i a : Nat) (hi : i < ps.length) (ha : a < ps.length) : (jf ps i a).length = ps.length := by
 unfold jf
 rw [List.length_append, List.length_take, List.length_drop, List.length_eraseIdx_of_lt hi]
 omega
theorem rH (ps : List Nat) (i a j : Nat) (hi : i < ps.length) (ha : a < ps.length) (hj : a <= j) : (jf ps i a)[j]? = ps[j]? := by
 unfold jf
 have hl : ((ps.eraseIdx i).take a).length = a := by rw [List.length_take, List.length_eraseIdx_of_lt hi]; omega
 rw [List.getElem?_append_right (by omega), hl, List.getElem?_drop]
 congr 1
 omega
theorem BM (ps : List Nat) (i a p : Nat) (hi : i <= a) (ha : a + 1 < ps.length) (hp : ps[a + 1]? = some p) : (jf ps i a).set a p = jf ps i (a + 1) := by
 have hil : i < ps.length := by omega
 apply List.ext_getElem?
 intro j
 have hl : ((ps.eraseIdx i).take a).length = a := by rw [List.length_take, List.length_eraseIdx_of_lt hil]; omega
 have hl1 : ((ps.eraseIdx i).take (a + 1)).length = a + 1 := by rw [List.length_take, List.length_eraseIdx_of_lt hil]; omega
 have hls := oU ps i a hil (by omega)
 rw [List.getElem?_set]
 by_cases e : a = j
 . subst e
   rw [if_pos rfl, if_pos (by omega)]
   unfold jf
   rw [List.getElem?_append_left (by omega), List.getElem?_take_of_lt (by omega), List.getElem?_eraseIdx, if_neg (by omega), hp]
 . rw [if_neg e]
   unfold jf
   by_cases h : j < a
   . rw [List.getElem?_append_left (by omega), List.getElem?_append_left (by omega), List.getElem?_take_of_lt h, List.getElem?_take_of_lt (by omega)]
   . rw [List.getElem?_append_right (by omega), List.getElem?_append_right (by omega), hl, hl1, List.getElem?_drop, List.getElem?_drop]
     congr 1
     omega
theorem FN (ps : List Nat) (i a : Nat) (hi : i < ps.length) (ha : a + 1 = ps.length) : (jf ps i a).take a = ps.eraseIdx i := by
 unfold jf
 have hl := List.length_eraseIdx_of_lt hi
 rw [List.take_append_of_le_length (by rw [List.length_take]; omega), List.take_take, Nat.min_self, List.take_of_length_le (by omega)]
theorem rJ (g m cap sb B : Nat) (os : List Lk.Ow) (ps : List Nat) (k : Int) (w : World) (hO : mF w os ps) (ho : w.ownsRow B 169 1 (.slice (some ⟨g, 0, none⟩) m cap) ps.length (ps.map ptr)) (hm : Hid (m = ps.length)) (h4 : ps.length <= 1000) (hs : sb < w.heap.size) (c : w.cell? ⟨sb, 0, none⟩ = some (.int .i64 k))
 (hR : Hid (os.findIdx? (qh k) = none)) :
 Calls Tryz.prog 123 #[.slice (some ⟨g, 0, none⟩) m cap, qM sb] w fun e w' => e = .returned (.slice (some ⟨g, 0, none⟩) m cap) ∧ ∃ n, w' = w.drewN n := by
 have HC := hide (nR g m cap sb B os ps k none w hO ho hm h4 hs c hR)
 clear hO ho
 unfold qM at *
 go_enter Tryz.func123, Tryz.ntmps123
 go_wp2_with fail
 refine (uh HC).mono ?_
 rintro e w1 ⟨rfl, n, rfl⟩
 simp only [TJ]
 go_wp2_with fail
 go_ret
 exact ⟨rfl, n, rfl⟩
theorem rM (g m cap sb B i : Nat) (os : List Lk.Ow) (ps : List Nat) (k : Int) (w : World) (hO : mF w os ps) (ho : w.ownsRow B 169 1 (.slice (some ⟨g, 0, none⟩) m cap) ps.length (ps.map ptr)) (hm : Hid (m = ps.length)) (h4 : ps.length <= 1000) (hs : sb < w.heap.size) (c : w.cell? ⟨sb, 0, none⟩ = some (.int .i64 k)) (hsg : sb ≠ g)
 (hR : Hid (os.findIdx? (qh k) = some i)) (hu : Hid (∀ j o, os[j]? = some o -> qh k o = true -> j = i)) :
 Calls Tryz.prog 123 #[.slice (some ⟨g, 0, none⟩) m cap, qM sb] w fun e w' =>
  e = .returned (.slice (some ⟨g, 0, none⟩) (m - 1) cap) ∧ w'.ownsRow B 169 1 (.slice (some ⟨g, 0, none⟩) (m - 1) cap) (ps.eraseIdx i).length ((ps.eraseIdx i).map ptr) ∧ Only (· = g) w w' := by
 have HC := hide (nR g m cap sb B os ps k (some i) w hO ho hm h4 hs c hR)
 have hil : i < ps.length := by
  rw [<- hO.len]
  exact (List.findIdx?_eq_some_iff_getElem.1 (uh hR)).1
 obtain ⟨cur, hBg, hgI, hcap, hcm, hcs, ht⟩ : ∃ cur : Array Value, B <= g ∧ Is w g 169 cur.toList ∧ ps.length <= cap ∧ cap <= maxLen ∧ cur.size = cap * 1 ∧ cur.toList.take (ps.length * 1) = ps.map ptr := by
  rcases ho.2 with ⟨h, _⟩ | ⟨_, _, cur, h, h1, h2, h3, h4, h5, h6⟩
  . cases h
  . cases h; exact ⟨cur, h1, by unfold Is; simpa using h2, h3, h4, h5, h6⟩
 generalize htl : cur.toList.drop ps.length = tl
 have UO : cur.toList = ps.map ptr ++ tl := by rw [<- htl, <- ht, Nat.mul_one, List.take_append_drop]
 have XG : tl.length = cap - ps.length := by rw [<- htl, List.length_drop, Array.length_toList]; omega
 rw [UO] at hgI
 have hgl := hgI.lt
 have HI := hide hgI
 have HO := hide hO
 have HME := hide (uh hm)
 have HIL := hide hil
 clear ho hO hgI htl UO ht hcs
 have hmn : i + 1 <= m := by have := uh hm; omega
 have hm4 : m <= 1000 := by have := uh hm; omega
 have hmc : m <= cap := by have := uh hm; omega
 clear hil h4 hcap
 unfold qM at *
 go_enter Tryz.func123, Tryz.ntmps123
 go_wp2_with fail
 refine (uh HC).mono ?_
 rintro e w1 ⟨rfl, n, rfl⟩
 simp only [TJ]
 have hi0 : ((i : Int) == -1) = false := by rw [beq_eq_false_iff_ne]; omega
 go_wp2_with fail
 go_loopw [5, 6] (fun u v wr => ∃ a : Nat, u = .int .i64 a ∧ v = .int .i64 ((a : Int) + 1) ∧ i <= a ∧ a + 1 <= m ∧ Is wr g 169 ((jf ps i a).map ptr ++ tl) ∧ Only (· = g) w wr) (fun u _ _ => m - (intOf u).toNat)
 case atStart => exact ⟨i, rfl, rfl, by omega, by omega, by rw [zD ps i (uh HIL)]; exact (uh HI).drewN n, (Only.refl _ _).drewN n⟩
 case round =>
  obtain ⟨a, rfl, rfl, hia, ham, hIr, hOr⟩ := hrel
  by_cases hlt : a + 1 < m
  . have hme := uh HME
    have hil := uh HIL
    obtain ⟨o, p, ho, hp, hI⟩ := (uh HO).get (i := a + 1) (by rw [(uh HO).len]; omega)
    have hpg : p ≠ g := fun e => by subst e; exact hI.ne (uh HI) (nbq rfl) rfl
    have hIp := hI.only hOr hpg
    have hl := oU ps i a hil (by omega)
    have cp : wr.cell? ⟨g, a + 1, none⟩ = some (.pointer (some ⟨p, 0, none⟩)) := by
     rw [hIr.cell, List.getElem?_append_left (by rw [List.length_map]; omega), List.getElem?_map, rH ps i a (a + 1) hil (by omega) (by omega), hp]
     rfl
    obtain ⟨pa, hpa⟩ : ∃ x, ps[a]? = some x := ⟨_, List.getElem?_eq_getElem (by omega)⟩
    have co : wr.cell? ⟨g, a, none⟩ = some (.pointer (some ⟨pa, 0, none⟩)) := by
     rw [hIr.cell, List.getElem?_append_left (by rw [List.length_map]; omega), List.getElem?_map, rH ps i a a hil (by omega) (by omega), hpa]
     rfl
    clear hpa
    have fo := hIr.free a
    have hgr := hIr.lt
    have hsr : sb < wr.heap.size := by have := hOr.size; omega
    have cs : wr.cell? ⟨sb, 0, none⟩ = some (.int .i64 k) := by
     have e := hOr.block sb hs hsg
     unfold World.cell? at c ⊢
     rw [e]
     exact c
    have QZ : ((o.id : Int) == k) = false := by
     cases hx : ((o.id : Int) == k) with
     | false => rfl
     | true => have := uh hu (a + 1) o ho hx; omega
    have HC1 := hide (zC p sb o k wr hIp hsr cs)
    have hstep := BM ps i a p hia (by omega) hp
    have hset : Is (wr.setCell ⟨g, a, none⟩ (.pointer (some ⟨p, 0, none⟩))) g 169 ((jf ps i (a + 1)).map ptr ++ tl) := by
     have := hIr.set a (ptr p)
     rw [List.set_append_left _ _ (by rw [List.length_map]; omega), <- List.map_set, hstep] at this
     exact this
    have VW := hide hset
    have hlt' : (a : Int) + 1 < m := by omega
    have HOR := hide hOr
    clear hme hil hI ho hp hIp hl hIr hOr hstep hset
    go_wp2_with fail
    refine (uh HC1).mono ?_
    rintro e w1 ⟨rfl, n1, rfl⟩
    rw [QZ]
    go_wp2_with fail
    go_roundw
    case rel => exact ⟨a + 1, by simp, by simp, by omega, by omega, (uh VW).drewN n1, ((uh HOR).set g a _ (fun _ => rfl)).drewN n1⟩
    case measure => simp [intOf]; omega
  . have hlt' : ¬ (a : Int) + 1 < m := by omega
    have hme := uh HME
    have hil := uh HIL
    have hl := oU ps i a hil (by omega)
    obtain ⟨pa, hpa⟩ : ∃ x, ps[a]? = some x := ⟨_, List.getElem?_eq_getElem (by omega)⟩
    have co : wr.cell? ⟨g, a, none⟩ = some (.pointer (some ⟨pa, 0, none⟩)) := by
     rw [hIr.cell, List.getElem?_append_left (by rw [List.length_map]; omega), List.getElem?_map, rH ps i a a hil (by omega) (by omega), hpa]
     rfl
    clear hpa
    have hcl := fun c => IP g a c wr (by rw [co]; rfl) (hIr.free a)
    have hset : Is (wr.setCell ⟨g, a, none⟩ (.pointer none)) g 169 (((jf ps i a).map ptr ++ tl).set a (.pointer none)) := hIr.set a (.pointer none)
    have hma : m = a + 1 := by omega
    have hfin : (wr.setCell ⟨g, a, none⟩ (.pointer none)).ownsRow B 169 1 (.slice (some ⟨g, 0, none⟩) a cap) (ps.eraseIdx i).length ((ps.eraseIdx i).map ptr) := by
     have he := List.length_eraseIdx_of_lt hil
     refine ⟨by simp, .inr ⟨g, cap, _, by rw [he]; congr 1; omega, hBg, hset, by omega, hcm, ?_, ?_⟩⟩
     . rw [List.size_toArray, List.length_set, List.length_append, List.length_map, hl]; omega
     . rw [List.toList_toArray, Nat.mul_one, he, List.take_set_of_le (by omega), List.take_append_of_le_length (by rw [List.length_map, hl]; omega), <- List.map_take]
       have : ps.length - 1 = a := by omega
       rw [this, FN ps i a hil (by omega)]
    have jD := hide hfin
    have HOR := hide hOr
    subst hma
    clear hme hl co hset hfin hIr hOr
    go_wp2_with fail
    go_ret
    exact ⟨rfl, uh jD, (uh HOR).set g a _ (fun _ => rfl)⟩
theorem xG (sb : Nat) (w : World) : Calls Tryz.prog 166 #[.slice none 0 0, qM sb] w fun e w' => e = .returned (.int .i64 (-1)) ∧ w' = w := by
 unfold qM
 go_enter Tryz.func166, Tryz.ntmps166
 go_wp2_with fail
 refine wp_loop_rounds 1 ?_
 rw [rounds_succ]
 go_wp2_with fail
 go_ret
 exact ⟨rfl, rfl⟩
theorem uK (sb : Nat) (w : World) : Calls Tryz.prog 123 #[.slice none 0 0, qM sb] w fun e w' => e = .returned (.slice none 0 0) ∧ w' = w := by
 have HC := hide (xG sb w)
 unfold qM at *
 go_enter Tryz.func123, Tryz.ntmps123
 go_wp2_with fail
 refine (uh HC).mono ?_
 rintro e w1 ⟨rfl, rfl⟩
 go_wp2_with fail
 go_ret
 exact ⟨rfl, rfl⟩
def iR {α : Type} (R : Option Nat) (l : List α) : List α := match R with
 | some i => l.eraseIdx i
 | none => l
def Apart (os : List Lk.Ow) : Prop := ∀ (i j : Nat) (o x : Lk.Ow), os[i]? = some o -> os[j]? = some x -> o.id = x.id -> i = j
def rowLen : Value -> Nat
 | .slice _ n _ => n
 | _ => 0
theorem uM (v : Value) (sb B : Nat) (os : List Lk.Ow) (ps : List Nat) (k : Int) (R : Option Nat) (w : World) (hO : mF w os ps) (ho : w.ownsRow B 169 1 v ps.length (ps.map ptr)) (h4 : ps.length <= 1000) (hs : sb < w.heap.size) (c : w.cell? ⟨sb, 0, none⟩ = some (.int .i64 k)) (hsg : v.ownBlock ≠ some sb) (ha : Apart os)
 (hR : os.findIdx? (qh k) = R) :
 Calls Tryz.prog 123 #[v, qM sb] w fun e w' =>
  ∃ a n cap, e = .returned (.slice a n cap) ∧ w'.ownsRow B 169 1 (.slice a n cap) (iR R ps).length ((iR R ps).map ptr) ∧ n = (iR R ps).length ∧ (Value.slice a n cap).ownBlock = v.ownBlock ∧ Only (fun i => some i = v.ownBlock) w w' := by
 rcases ho.2 with ⟨rfl, h0⟩ | ⟨g, cap, cur, rfl, _⟩
 . obtain rfl : ps = [] := List.eq_nil_of_length_eq_zero h0
   have hol := hO.len
   obtain rfl : os = [] := List.eq_nil_of_length_eq_zero (by simpa using hol)
   simp at hR
   subst hR
   refine (uK sb w).mono ?_
   rintro e w' ⟨rfl, rfl⟩
   exact ⟨_, _, _, rfl, ho, rfl, rfl, Only.refl _ _⟩
 . cases hRR : R with
   | none =>
     subst hRR
     refine (rJ g ps.length cap sb B os ps k w hO ho (hide rfl) h4 hs c hR).mono ?_
     rintro e w' ⟨rfl, n, rfl⟩
     exact ⟨_, _, _, rfl, ho, rfl, rfl, (Only.refl _ _).drewN n⟩
   | some i =>
     subst hRR
     have hfi := List.findIdx?_eq_some_iff_getElem.1 hR
     obtain ⟨hil, hii, _⟩ := hfi
     refine (rM g ps.length cap sb B i os ps k w hO ho (hide rfl) h4 hs c (fun e => hsg (by subst e; rfl)) hR (fun j o hj hx => ?_)).mono ?_
     . refine ha j i o os[i] hj (List.getElem?_eq_getElem hil) ?_
       unfold qh at hx hii
       simp at hx hii
       omega
     rintro e w' ⟨rfl, ho', hO'⟩
     have hl : ps.length - 1 = (ps.eraseIdx i).length := by rw [List.length_eraseIdx_of_lt (by rw [<- hO.len]; exact hil)]
     exact ⟨_, _, _, rfl, ho', hl, rfl, hO'.mono (fun x hx => by subst hx; rfl)⟩
theorem Ej (b B : Nat) (T : TypeId) (cs : List Value) (v : Value) (os : List Lk.Ow) (ps : List Nat) (k : Int) (R : Option Nat) (w : World) (hI : Is w b T cs) (hT : T ≠ 169) (hT2 : T ≠ 173) (h10 : cs[10]? = some v) (hO : mF w os ps) (ho : w.ownsRow B 169 1 v ps.length (ps.map ptr)) (h4 : ps.length <= 1000) (ha : Apart os)
 (hR : os.findIdx? (qh k) = R) :
 Calls Tryz.prog 75 #[.pointer (some ⟨b, 3, none⟩), .int .i64 k] w fun e w' =>
  e = .returned (.bool R.isSome) ∧ ∃ v', Is w' b T (cs.set 10 v') ∧ w'.ownsRow B 169 1 v' (iR R ps).length ((iR R ps).map ptr) ∧ v'.ownBlock = v.ownBlock ∧ mF w' os ps ∧ Only (fun i => i = b ∨ some i = v.ownBlock) w w' := by
 obtain ⟨va, vn, oM, rfl, hvn⟩ := bV ho
 have c10 : w.cell? ⟨b, 10, none⟩ = some (.slice va vn oM) := by rw [hI.cell]; exact h10
 have hbl := hI.lt
 have hsg : (Value.slice va vn oM).ownBlock ≠ some w.heap.size := fun e => by have := (ho.lt _ e).2; omega
 have HC := hide (uM (.slice va vn oM) w.heap.size B os ps k R (w.alloc (.cells #[.int .i64 k] 3)) (hO.only ((Only.refl (fun _ => False) w).alloc _) (fun _ _ h => h)) (ho.alloc _) h4 (by simp) ((Is.new w 3 [.int .i64 k]).cell 0) hsg ha hR)
 have hne : some b ≠ (Value.slice va vn oM).ownBlock := own_ne ho hI hT
 have HNE := hide hne
 have HOW := hide ho
 have HO := hide hO
 have HI := hide hI
 have HVN := hide hvn
 have HR := hide hR
 have UQ : (iR R ps).length + (if R.isSome then 1 else 0) = ps.length := by
  subst hR
  cases hf : os.findIdx? (qh k) with
  | none => rfl
  | some i =>
    have := (List.findIdx?_eq_some_iff_getElem.1 hf).1
    simp only [iR, Option.isSome, if_true]
    rw [List.length_eraseIdx_of_lt (by rw [<- hO.len]; exact this)]
    have := hO.len
    omega
 have HRL := hide UQ
 clear hI hO ho hne hvn UQ ha hR h10 hsg
 unfold qM at *
 go_enter Tryz.func75, Tryz.ntmps75
 go_wp2_with fail
 refine (uh HC).mono ?_
 rintro e w1 ⟨a, n, cap, rfl, ho1, hn1, hob, hO1⟩
 have hO2 : Only (fun i => some i = (Value.slice va vn oM).ownBlock) w w1 := ((Only.refl _ w).alloc (.cells #[.int .i64 k] 3)).trans hO1 (fun i hi _ => hi)
 have hI1 := (uh HI).only hO2 (uh HNE)
 have c1 : w1.cell? ⟨b, 10, none⟩ = some (.slice va vn oM) := by rw [hI1.cell, <- (uh HI).cell]; exact c10
 have f1 := hI1.free 10
 have hb1 := hI1.lt
 have HN1 := hide hn1
 have HO1 := hide ho1
 have HB := hide hob
 have HO2 := hide hO2
 have HI1 := hide hI1
 clear hn1 ho1 hob hO1 hO2 hI1 c10
 go_wp2_with fail
 go_ret
 have ho1 := uh HO1
 have hI1 := uh HI1
 have hne1 := own_ne ho1 hI1 hT
 refine ⟨aH ?_, _, hI1.set 10 _, ho1.kept (grownBy_set w1 b 10 _) (.inr (fun e => hne1 e.symm)), uh HB, ?_, ?_⟩
 . have h1 := uh HRL
   have h2 := uh HN1
   have h3 := uh HVN
   rw [Bool.eq_iff_iff]
   cases R <;> simp at h1 ⊢ <;> omega
 . have hOa := (uh HO).only (uh HO2) (fun p hp e => ?_)
   . refine hOa.only (Only.dP ((Turns.refl b w1).set 10 _)) (fun p hp e => ?_)
     obtain ⟨o, hIp⟩ := hOa.mem hp
     subst e
     exact hI1.ne hIp hT2 rfl
   . obtain ⟨o, hIp⟩ := (uh HO).mem hp
     exact own_ne (uh HOW) hIp (nbq rfl) e
 . exact ((uh HO2).mono (fun i hi => .inr hi)).set b 10 _ (fun _ => .inl rfl)
theorem Lr (b : Nat) (k : Int) (w : World) (_hb : b < w.heap.size) (c : w.cell? ⟨b, 10, none⟩ = some (.slice none 0 0)) : Calls Tryz.prog 147 #[.pointer (some ⟨b, 3, none⟩), .int .i64 k] w fun e w' => e = .returned (.tuple #[.pointer none, .bool false]) ∧ w' = w := by
 go_enter Tryz.func147, Tryz.ntmps147
 go_wp2_with fail
 refine wp_loop_rounds 1 ?_
 rw [rounds_succ]
 go_wp2_with fail
 go_ret2
 exact ⟨rfl, rfl⟩
theorem IQ (b B g m cap : Nat) (os : List Lk.Ow) (ps : List Nat) (k : Int) (R : Option Nat) (w : World) (hb : b < w.heap.size) (c : w.cell? ⟨b, 10, none⟩ = some (.slice (some ⟨g, 0, none⟩) m cap)) (hO : mF w os ps) (ho : w.ownsRow B 169 1 (.slice (some ⟨g, 0, none⟩) m cap) ps.length (ps.map ptr)) (hm : Hid (m = ps.length)) (h4 : m <= 1000)
 (hR : Hid (os.findIdx? (qh k) = R)) :
 Calls Tryz.prog 147 #[.pointer (some ⟨b, 3, none⟩), .int .i64 k] w fun e w' => e = .returned (.tuple #[bu (R.bind fun i => ps[i]?), .bool R.isSome]) ∧ w' = w := by
 have hol := hO.len
 have HOL := hide hol
 have HO := hide hO
 have HW := hide ho
 clear hO ho hol
 go_enter Tryz.func147, Tryz.ntmps147
 go_wp2_with fail
 go_loopw [13] (fun u wr => ∃ j : Nat, u = .int .i64 j ∧ j <= m ∧ Hid (∀ i o, i < j -> os[i]? = some o -> qh k o = false) ∧ wr = w) (fun u _ => m - (intOf u).toNat)
 case atStart => exact ⟨0, rfl, by omega, fun i o hi => by omega, rfl⟩
 case round =>
  obtain ⟨j, rfl, hj, HJ, rfl⟩ := hrel
  by_cases hlt : j < m
  . have hme := uh hm
    have hol := uh HOL
    obtain ⟨o, p, ho, hp, hI⟩ := (uh HO).get (i := j) (by omega)
    obtain ⟨hg, cp⟩ := BK (uh HW) hp
    have hlt' : (j : Int) < m := by omega
    have c0 := hI.cell 0
    simp only [owV, List.getElem?_cons_zero] at c0
    have hpl := hI.lt
    have HOJ := hide ho
    have HP := hide hp
    have hjo : j < os.length := by omega
    clear hI ho hp hme hol
    by_cases hk : (o.id : Int) == k
    . have hRR : R = some j := by
       rw [<- uh hR]
       rw [List.findIdx?_eq_some_iff_getElem]
       refine ⟨hjo, ?_, ?_⟩
       . have := uh HOJ
         rw [List.getElem?_eq_getElem hjo] at this
         cases this
         exact hk
       . intro i hi
         have := uh HJ i os[i] hi (List.getElem?_eq_getElem (by omega))
         simp [this]
      subst hRR
      go_wp2_with fail
      go_ret2
      refine ⟨?_, rfl⟩
      have := uh HP
      simp [this, bu, ptr]
    . have hk' : ((o.id : Int) == k) = false := by simpa using hk
      go_wp2_with fail
      go_roundw
      case rel =>
       refine ⟨j + 1, by simp, by omega, ?_, by first | rfl | trivial⟩
       intro i x hi hx
       by_cases e : i = j
       . subst e
         rw [uh HOJ] at hx
         cases hx
         exact hk'
       . exact uh HJ i x (by omega) hx
      case measure => simp [intOf]; omega
  . have hlt' : ¬ (j : Int) < m := by omega
    have hRR : R = none := by
     have hme := uh hm
     have hol := uh HOL
     rw [<- uh hR]
     rw [List.findIdx?_eq_none_iff]
     intro x hx
     obtain ⟨i, hi⟩ := List.getElem?_of_mem hx
     refine uh HJ i x ?_ hi
     rcases Nat.lt_or_ge i os.length with h | h
     . omega
     . rw [List.getElem?_eq_none h] at hi; cases hi
    subst hRR
    go_wp2_with fail
    go_ret2
    exact ⟨rfl, rfl⟩
theorem Ls (b B : Nat) (T : TypeId) (cs : List Value) (v : Value) (os : List Lk.Ow) (ps : List Nat) (k : Int) (R : Option Nat) (w : World) (hI : Is w b T cs) (h10 : cs[10]? = some v) (hO : mF w os ps) (ho : w.ownsRow B 169 1 v ps.length (ps.map ptr)) (h4 : ps.length <= 1000)
 (hR : os.findIdx? (qh k) = R) :
 Calls Tryz.prog 147 #[.pointer (some ⟨b, 3, none⟩), .int .i64 k] w fun e w' => e = .returned (.tuple #[bu (R.bind fun i => ps[i]?), .bool R.isSome]) ∧ w' = w := by
 have c : w.cell? ⟨b, 10, none⟩ = some v := by rw [hI.cell]; exact h10
 rcases ho.2 with ⟨rfl, h0⟩ | ⟨g, cap, cur, rfl, _⟩
 . obtain rfl : ps = [] := List.eq_nil_of_length_eq_zero h0
   have hol := hO.len
   obtain rfl : os = [] := List.eq_nil_of_length_eq_zero (by simpa using hol)
   simp at hR
   subst hR
   exact Lr b k w hI.lt c
 . exact IQ b B g ps.length cap os ps k R w hI.lt c hO ho (hide rfl) h4 hR
def gY (all : Nat) (o : Lk.Ow) : Nat := min (min o.left.length 16) (min o.cr all)
theorem Lt (P : Program) (w : World) (ts : Array TypeId) (t : TypeId) (a b c d : Int) : (Builtin.min_ ts t #[.int .i64 a, .int .i64 b, .int .i64 c, .int .i64 d]).run P w = .ok (.int .i64 (min (min (min a b) c) d)) w := by
 have e : ∀ x y : Int, (if y < x then y else x) = min x y := fun x y => by
  split <;> omega
 show (List.foldlM Builtin.min2 (.int .i64 a) [.int .i64 b, .int .i64 c, .int .i64 d] : Sem Value).run P w = _
 simp only [List.foldlM, Builtin.min2, e]
 rfl
theorem Lu (P : Program) (w : World) (ts : Array TypeId) (t : TypeId) (a b : Int) : (Builtin.max_ ts t #[.int .i64 a, .int .i64 b]).run P w = .ok (.int .i64 (max a b)) w := by
 have e : ∀ x y : Int, (if x < y then y else x) = max x y := fun x y => by
  split <;> omega
 show (List.foldlM Builtin.max2 (.int .i64 a) [.int .i64 b] : Sem Value).run P w = _
 simp only [List.foldlM, Builtin.max2, e]
 rfl
theorem Em (b p all : Nat) (o : Lk.Ow) (w : World) (_hb : b < w.heap.size) (c : w.cell? ⟨b, 9, none⟩ = some (.int .i64 (all : Int))) (hI : Is w p 173 (owV o)) :
 Calls Tryz.prog 74 #[.pointer (some ⟨b, 3, none⟩), .pointer (some ⟨p, 0, none⟩)] w fun e w' => e = .returned (.int .i64 (gY all o : Int)) ∧ ∃ n, w' = w.drewN n := by
 have c1 := hI.cell 1
 have c2 := hI.cell 2
 simp only [owV, List.getElem?_cons_zero, List.getElem?_cons_succ] at c1 c2
 have hl := hI.lt
 have hs := ax o.left
 clear hI
 go_enter Tryz.func74, Tryz.ntmps74
 go_wp2_with fail
 have hmin := fun (W : World) => Lt Tryz.prog W #[3, 3, 3, 3] 3 (o.left.length : Int) 16 (o.cr : Int) (all : Int)
 go_region
 go_wp2_with fail
 go_ret
 refine ⟨je ?_, by first | exact ⟨1, rfl⟩ | exact ⟨_, rfl⟩⟩
 unfold gY
 omega
def yY (all : Nat) (o : Lk.Ow) : Bool := o.left.isEmpty || decide (0 < gY all o)
theorem BN (b p all : Nat) (o : Lk.Ow) (w : World) (hb : b < w.heap.size) (c : w.cell? ⟨b, 9, none⟩ = some (.int .i64 (all : Int))) (hI : Is w p 173 (owV o)) :
 Calls Tryz.prog 122 #[.pointer (some ⟨b, 3, none⟩), .pointer (some ⟨p, 0, none⟩)] w fun e w' => e = .returned (.bool (yY all o)) ∧ ∃ n, w' = w.drewN n := by
 have HC := hide (Em b p all o w hb c hI)
 have c2 := hI.cell 2
 simp only [owV, List.getElem?_cons_zero, List.getElem?_cons_succ] at c2
 have hl := hI.lt
 generalize hM : yY all o = M
 have HM := hide hM
 clear hI hM
 by_cases h : o.left = []
 . rw [h] at c2
   have e : bs [] = ⟨#[]⟩ := rfl
   rw [e] at c2
   go_enter Tryz.func122, Tryz.ntmps122
   go_wp2_with fail
   go_ret
   refine ⟨aH ?_, 0, rfl⟩
   rw [<- uh HM]
   simp [yY, h]
 . have hne : ((bs o.left).toList == (⟨#[]⟩ : ByteArray).toList) = false := by
    rw [beq_eq_false_iff_ne]
    intro e
    rw [ByteArray.toList_eq, ByteArray.toList_eq] at e
    simp [bs] at e
    exact h e
   have hne2 : (bs o.left).toList.isEmpty = false := by
    rw [ByteArray.toList_eq]
    cases hx : o.left with
    | nil => exact absurd hx h
    | cons a t => simp [bs]
   have hpos : o.left.isEmpty = false := by
    cases hx : o.left with
    | nil => exact absurd hx h
    | cons a t => rfl
   go_enter Tryz.func122, Tryz.ntmps122
   go_wp2_with fail
   refine (uh HC).mono ?_
   rintro e w1 ⟨rfl, n, rfl⟩
   go_wp2_with fail
   go_ret
   refine ⟨aH ?_, n, rfl⟩
   rw [<- uh HM]
   simp [yY, hpos]
theorem mG (b : Nat) (w : World) (_hb : b < w.heap.size) (c : w.cell? ⟨b, 10, none⟩ = some (.slice none 0 0)) : Calls Tryz.prog 73 #[.pointer (some ⟨b, 3, none⟩)] w fun e w' => e = .returned (.tuple #[.pointer none, .bool false]) ∧ w' = w := by
 go_enter Tryz.func73, Tryz.ntmps73
 go_wp2_with fail
 refine wp_loop_rounds 1 ?_
 rw [rounds_succ]
 go_wp2_with fail
 go_ret2
 exact ⟨rfl, rfl⟩
def jg (all turn : Nat) (o : Lk.Ow) : Bool := yY all o && decide (turn < o.id)
def BP (all turn : Nat) (os : List Lk.Ow) : Option Nat := match os.findIdx? (jg all turn) with
 | some i => some i
 | none => os.findIdx? (yY all)
theorem oV {α : Type} (f : α -> Bool) (l : List α) (j : Nat) (x : α) (hx : l[j]? = some x) : (l.take (j + 1)).findIdx? f = match (l.take j).findIdx? f with
 | some i => some i
 | none => if f x then some j else none := by
 have e : l.take (j + 1) = l.take j ++ [x] := by rw [List.take_add_one, hx]; rfl
 have hj : (l.take j).length = j := by
  rw [List.length_take]
  rcases Nat.lt_or_ge j l.length with h | h
  . omega
  . rw [List.getElem?_eq_none h] at hx; cases hx
 rw [e, List.findIdx?_append]
 cases (l.take j).findIdx? f with
 | some i => rfl
 | none =>
   simp only [Option.none_or]
   rw [List.findIdx?_cons]
   split
   . rename_i h; simp [hj]
   . rename_i h; simp
theorem rO (b B g m cap all turn : Nat) (os : List Lk.Ow) (ps : List Nat) (R : Option Nat) (w : World) (hb : b < w.heap.size) (c : w.cell? ⟨b, 10, none⟩ = some (.slice (some ⟨g, 0, none⟩) m cap)) (c9 : w.cell? ⟨b, 9, none⟩ = some (.int .i64 (all : Int))) (c8 : w.cell? ⟨b, 8, none⟩ = some (.int .i64 (turn : Int))) (hO : mF w os ps) (ho : w.ownsRow B 169 1 (.slice (some ⟨g, 0, none⟩) m cap) ps.length (ps.map ptr)) (hm : Hid (m = ps.length)) (h4 : m <= 1000)
 (hR : Hid (BP all turn os = R)) :
 Calls Tryz.prog 73 #[.pointer (some ⟨b, 3, none⟩)] w fun e w' => e = .returned (.tuple #[bu (R.bind fun i => ps[i]?), .bool R.isSome]) ∧ ∃ n, w' = w.drewN n := by
 have hol := hO.len
 have HOL := hide hol
 have HO := hide hO
 have HW := hide ho
 clear hO ho hol
 go_enter Tryz.func73, Tryz.ntmps73
 go_wp2_with fail
 go_loopw [4, 12] (fun q u wr => ∃ j : Nat, u = .int .i64 j ∧ j <= m ∧ Hid (q = bu (((os.take j).findIdx? (yY all)).bind fun i => ps[i]?)) ∧ Hid (∀ i o, i < j -> os[i]? = some o -> jg all turn o = false) ∧ ∃ n, wr = w.drewN n) (fun _ u _ => m - (intOf u).toNat)
 case atStart => exact ⟨0, rfl, by omega, rfl, fun i o hi => by omega, 0, rfl⟩
 case round =>
  obtain ⟨j, rfl, hj, HQ, HJ, n, rfl⟩ := hrel
  by_cases hlt : j < m
  . have hme := uh hm
    have hol := uh HOL
    obtain ⟨o, p, ho, hp, hI⟩ := (uh HO).get (i := j) (by omega)
    obtain ⟨hg, cp⟩ := BK (uh HW) hp
    have hlt' : (j : Int) < m := by omega
    have c0 := hI.cell 0
    simp only [owV, List.getElem?_cons_zero] at c0
    have hpl := hI.lt
    have HC := hide (fun n => BN b p all o (w.drewN n) hb c9 (hI.drewN n))
    have HOJ := hide ho
    have HP := hide hp
    have hjo : j < os.length := by omega
    have HSN := hide (oV (yY all) os j o ho)
    clear hI ho hp hme hol
    cases hmay : yY all o with
    | false =>
      rw [hmay] at HC
      go_wp2_with fail
      refine (uh HC n).mono ?_
      rintro e w1 ⟨rfl, n1, rfl⟩
      go_wp2_with fail
      go_roundw
      case rel =>
       refine ⟨j + 1, by simp, by omega, ?_, ?_, n + n1, by first | rfl | simp⟩
       . have e := uh HSN
         rw [hmay] at e
         rw [Hid, e, uh HQ]
         cases (os.take j).findIdx? (yY all) <;> rfl
       . intro i x hi hx
         by_cases e : i = j
         . subst e
           rw [uh HOJ] at hx
           cases hx
           simp [jg, hmay]
         . exact uh HJ i x (by omega) hx
      case measure => simp [intOf]; omega
    | true =>
      rw [hmay] at HC
      by_cases htn : turn < o.id
      . have VX : (turn : Int) < (o.id : Int) := by omega
        have hRR : R = some j := by
         rw [<- uh hR]
         unfold BP
         have : os.findIdx? (jg all turn) = some j := by
          rw [List.findIdx?_eq_some_iff_getElem]
          refine ⟨hjo, ?_, ?_⟩
          . have := uh HOJ
            rw [List.getElem?_eq_getElem hjo] at this
            cases this
            simp [jg, hmay, htn]
          . intro i hi
            have := uh HJ i os[i] hi (List.getElem?_eq_getElem (by omega))
            simp [this]
         rw [this]
        subst hRR
        go_wp2_with fail
        refine (uh HC n).mono ?_
        rintro e w1 ⟨rfl, n1, rfl⟩
        go_wp2_with fail
        go_quiet (fail)
        go_wp2_with fail
        go_ret2
        refine ⟨?_, by first | exact ⟨_, rfl⟩ | exact ⟨_, by simp; rfl⟩⟩
        have := uh HP
        simp [this, bu, ptr]
      . have VX : ¬ (turn : Int) < (o.id : Int) := by omega
        have hab : jg all turn o = false := by simp [jg, htn]
        have FO : Hid (∀ i x, i < j + 1 -> os[i]? = some x -> jg all turn x = false) := by
         intro i x hi hx
         by_cases e : i = j
         . subst e
           rw [uh HOJ] at hx
           cases hx
           exact hab
         . exact uh HJ i x (by omega) hx
        cases hlow : (os.take j).findIdx? (yY all) with
        | none =>
          have e := uh HSN
          rw [hlow, hmay] at e
          simp only [if_true] at e
          have hq := uh HQ
          rw [hlow] at hq
          simp only [Option.bind_none, bu] at hq
          subst hq
          have HE := hide e
          clear e
          go_wp2_with fail
          refine (uh HC n).mono ?_
          rintro e w1 ⟨rfl, n1, rfl⟩
          go_wp2_with fail
          go_quiet (fail)
          go_wp2_with fail
          go_roundw
          case rel =>
           refine ⟨j + 1, by simp, by omega, ?_, FO, by first | exact ⟨_, rfl⟩ | exact ⟨_, by simp; rfl⟩⟩
           rw [Hid, uh HE]
           have := uh HP
           simp [this, bu, ptr]
          case measure => simp [intOf]; omega
        | some i0 =>
          have e := uh HSN
          rw [hlow] at e
          simp only at e
          have hq := uh HQ
          rw [hlow] at hq
          obtain ⟨q0, hq0⟩ : ∃ q0, ps[i0]? = some q0 := by
           have h1 := (List.findIdx?_eq_some_iff_getElem.1 hlow).1
           rw [List.length_take] at h1
           have hme := uh hm
           exact ⟨_, List.getElem?_eq_getElem (by omega)⟩
          simp only [Option.bind_some, hq0, bu, ptr] at hq
          subst hq
          have HE := hide e
          have HQ0 := hide hq0
          clear e hq0
          go_wp2_with fail
          refine (uh HC n).mono ?_
          rintro e w1 ⟨rfl, n1, rfl⟩
          go_wp2_with fail
          go_quiet (fail)
          go_wp2_with fail
          go_roundw
          case rel =>
           refine ⟨j + 1, by simp, by omega, ?_, FO, by first | exact ⟨_, rfl⟩ | exact ⟨_, by simp; rfl⟩⟩
           rw [Hid, uh HE]
           have := uh HQ0
           simp [this, bu, ptr]
          case measure => simp [intOf]; omega
  . have hlt' : ¬ (j : Int) < m := by omega
    have hab : os.findIdx? (jg all turn) = none := by
     have hme := uh hm
     have hol := uh HOL
     rw [List.findIdx?_eq_none_iff]
     intro x hx
     obtain ⟨i, hi⟩ := List.getElem?_of_mem hx
     refine uh HJ i x ?_ hi
     rcases Nat.lt_or_ge i os.length with h | h
     . omega
     . rw [List.getElem?_eq_none h] at hi; cases hi
    have hRR : R = os.findIdx? (yY all) := by
     rw [<- uh hR]
     unfold BP
     rw [hab]
    have hq := uh HQ
    rw [List.take_of_length_le (by have hme := uh hm; have hol := uh HOL; omega), <- hRR] at hq
    clear hab hRR
    cases R with
    | none =>
      simp only [Option.bind_none, bu] at hq
      subst hq
      go_wp2_with fail
      go_ret2
      exact ⟨rfl, n, rfl⟩
    | some i0 =>
      obtain ⟨q0, hq0⟩ : ∃ q0, ps[i0]? = some q0 := by
       have h1 : os.findIdx? (yY all) = some i0 ∨ os.findIdx? (jg all turn) = some i0 := by
        have := uh hR
        unfold BP at this
        cases hx : os.findIdx? (jg all turn) with
        | some i => rw [hx] at this; exact .inr this
        | none => rw [hx] at this; exact .inl this
       have hl : i0 < os.length := by
        rcases h1 with h | h <;> exact (List.findIdx?_eq_some_iff_getElem.1 h).1
       have hol := uh HOL
       exact ⟨_, List.getElem?_eq_getElem (by omega)⟩
      simp only [Option.bind_some, hq0, bu, ptr] at hq
      subst hq
      have HQ0 := hide hq0
      clear hq0
      go_wp2_with fail
      go_ret2
      refine ⟨?_, n, rfl⟩
      have := uh HQ0
      simp [this, bu, ptr]
def RB (w : World) (b : Nat) (s : ByteArray) (p : Nat) (bad : Int) : Prop := Is w b 213 [.string s, .int .i64 p, .int .i64 bad]
theorem eU (b : Nat) (s : ByteArray) (p : Nat) (at' : Int) (w : World) (hI : RB w b s p (-1)) :
 Calls Tryz.prog 156 #[.pointer (some ⟨b, 0, none⟩), .int .i64 at'] w fun e w' => e = .returned (.tuple #[]) ∧ RB w' b s p at' ∧ Turns b w w' := by
 have c2 : w.cell? ⟨b, 2, none⟩ = some (.int .i64 (-1)) := hI.cell 2
 have f2 : w.frozen? ⟨b, 2, none⟩ = false := hI.free 2
 have HI := hide hI
 clear hI
 go_enter Tryz.func156, Tryz.ntmps156
 go_wp2_with fail
 go_end0
 exact ⟨rfl, (uh HI).set 2 _, (Turns.refl b w).set 2 _⟩
theorem Au (b : Nat) (s : ByteArray) (p q : Nat) (w : World) (hI : RB w b s p q) :
 Calls Tryz.prog 155 #[.pointer (some ⟨b, 0, none⟩)] w fun e w' => e = .returned (.int .i64 0) ∧ w' = w := by
 have c2 : w.cell? ⟨b, 2, none⟩ = some (.int .i64 q) := hI.cell 2
 have hq : (0 : Int) <= q := by omega
 clear hI
 go_enter Tryz.func155, Tryz.ntmps155
 go_wp2_with fail
 go_ret
 exact ⟨rfl, rfl⟩
theorem Dk (s : Lk.Bs) (p : Nat) : (∃ n q, Lk.kT s p = .ok n q ∧ (Lk.rd 0 0 (s.drop p)).val = n ∧ (Lk.rd 0 0 (s.drop p)).next p = q ∧ (Lk.rd 0 0 (s.drop p)).jQ p = -1 ∧ (Lk.rd 0 0 (s.drop p)).gq = false)
 ∨ (∃ q : Nat, Lk.kT s p = .bad q ∧ (Lk.rd 0 0 (s.drop p)).jQ p = q)
 ∨ (Lk.kT s p = .bad s.length ∧ (Lk.rd 0 0 (s.drop p)).jQ p = -1 ∧ (Lk.rd 0 0 (s.drop p)).gq = true) := by
 unfold Lk.kT
 cases Lk.rd 0 0 (s.drop p) with
 | ok n k => exact .inl ⟨n, p + k, rfl, rfl, rfl, rfl, rfl⟩
 | bad k => exact .inr (.inl ⟨p + k, rfl, rfl⟩)
 | short => exact .inr (.inr ⟨rfl, rfl, rfl⟩)
theorem GX {w wx : World} {T : TypeId} (hbx : Below ((w.drew).alloc (.cells #[.int .i64 0, .int .i64 0, .int .i64 0, .bool false] T)).heap.size ((w.drew).alloc (.cells #[.int .i64 0, .int .i64 0, .int .i64 0, .bool false] T)) wx) :
 wx.cell? ⟨w.heap.size, 0, none⟩ = some (.int .i64 0) ∧ wx.cell? ⟨w.heap.size, 1, none⟩ = some (.int .i64 0) ∧ wx.cell? ⟨w.heap.size, 2, none⟩ = some (.int .i64 0) ∧ wx.cell? ⟨w.heap.size, 3, none⟩ = some (.bool false) ∧
 wx.frozen? ⟨w.heap.size, 0, none⟩ = false ∧ wx.frozen? ⟨w.heap.size, 1, none⟩ = false ∧ wx.frozen? ⟨w.heap.size, 2, none⟩ = false ∧ wx.frozen? ⟨w.heap.size, 3, none⟩ = false := by
 have hI : Is wx w.heap.size T [.int .i64 0, .int .i64 0, .int .i64 0, .bool false] := (Is.new w.drew T [.int .i64 0, .int .i64 0, .int .i64 0, .bool false]).below hbx (by simp)
 exact ⟨hI.cell 0, hI.cell 1, hI.cell 2, hI.cell 3, hI.free 0, hI.free 1, hI.free 2, hI.free 3⟩
theorem JO {w wx : World} {a b c d : Value} {T : TypeId} (hbx : Below w.drew.heap.size w.drew wx) :
 ∃ F, Value.pointer (some ⟨wx.heap.size, 0, none⟩) = .pointer (some ⟨F, 0, none⟩) ∧ w.heap.size <= F ∧ Is (wx.alloc (.cells #[a, b, c, d] T)) F T [a, b, c, d] ∧ Below w.heap.size w (wx.alloc (.cells #[a, b, c, d] T)) := by
 have hb : Below w.heap.size w wx := bQ hbx
 exact ⟨_, rfl, hb.size, Is.new wx T [a, b, c, d], hb.alloc hb.size _⟩
theorem JP {w wx : World} {a b c d : Value} {T : TypeId} (hbx : Below ((w.drew).alloc (.cells #[.int .i64 0, .int .i64 0, .int .i64 0, .bool false] T)).heap.size ((w.drew).alloc (.cells #[.int .i64 0, .int .i64 0, .int .i64 0, .bool false] T)) wx) :
 ∃ F, Value.pointer (some ⟨w.heap.size, 0, none⟩) = .pointer (some ⟨F, 0, none⟩) ∧ w.heap.size <= F ∧ Is ((((wx.setCell ⟨w.heap.size, 0, none⟩ a).setCell ⟨w.heap.size, 1, none⟩ b).setCell ⟨w.heap.size, 2, none⟩ c).setCell ⟨w.heap.size, 3, none⟩ d) F T [a, b, c, d] ∧ Below w.heap.size w ((((wx.setCell ⟨w.heap.size, 0, none⟩ a).setCell ⟨w.heap.size, 1, none⟩ b).setCell ⟨w.heap.size, 2, none⟩ c).setCell ⟨w.heap.size, 3, none⟩ d) := by
 have hI : Is wx w.heap.size T [.int .i64 0, .int .i64 0, .int .i64 0, .bool false] := (Is.new w.drew T [.int .i64 0, .int .i64 0, .int .i64 0, .bool false]).below hbx (by simp)
 have hb : Below w.heap.size w wx := (((Below.refl w.heap.size w).drew).alloc (Nat.le_refl _) _).trans (hbx.mono (by simp))
 exact ⟨_, rfl, Nat.le_refl _, (((hI.set 0 a).set 1 b).set 2 c).set 3 d, (((hb.setCell (Nat.le_refl _) _).setCell (Nat.le_refl _) _).setCell (Nat.le_refl _) _).setCell (Nat.le_refl _) _⟩
theorem eX (b : Nat) (s : ByteArray) (p : Nat) (w : World) (hs : s.size <= 2 ^ 48) (hp : p <= s.size) (hI : RB w b s p (-1)) :
 Calls Tryz.prog 155 #[.pointer (some ⟨b, 0, none⟩)] w fun e w' =>
  (match Lk.kT s.data.toList p with
   | .ok n q => e = .returned (.int .i64 n) ∧ RB w' b s q (-1)
   | .bad q => e = .returned (.int .i64 0) ∧ RB w' b s p q) ∧ Turns b w w' := by
 have c0 : w.cell? ⟨b, 0, none⟩ = some (.string s) := hI.cell 0
 have c1 : w.cell? ⟨b, 1, none⟩ = some (.int .i64 p) := hI.cell 1
 have c2 : w.cell? ⟨b, 2, none⟩ = some (.int .i64 (-1)) := hI.cell 2
 have hbl := hI.lt
 have HI := hide hI
 have HC := hide (fun w => kz s p w (by omega) hp)
 have HF := hide (Dk s.data.toList p)
 clear hI
 generalize Lk.rd 0 0 (s.data.toList.drop p) = R at *
 generalize hnr : Lk.kT s.data.toList p = NR at *
 clear hnr
 go_enter Tryz.func155, Tryz.ntmps155
 go_wp2_with fail
 go_cut [3] (fun u wc => ∃ F, u = .pointer (some ⟨F, 0, none⟩) ∧ w.heap.size <= F ∧ Is wc F 187 [.int .i64 R.val, .int .i64 (R.next p), .int .i64 (R.jQ p), .bool R.gq] ∧ Below w.heap.size w wc)
 case first =>
  first | (go_region_with (go_at_call 84; refine (uh HC _).mono ?_; rintro e wx ⟨rfl, hbx⟩; (first | (have kk := GX hbx; obtain ⟨k0, k1, k2, k3, j0, j1, j2, j3⟩ := kk) | skip))) | fail
  all_goals
   go_wp2_with fail
   go_meet
   first
    | exact JP hbx
    | exact JO hbx
 obtain ⟨F, rfl, hF, hIF, hb2⟩ := hcut
 have hI2 : RB wc b s p (-1) := Is.below (uh HI) hb2 hbl
 have hTb := Below.turns hb2 b
 have hFb : b ≠ F := by omega
 have d0 : wc.cell? ⟨b, 0, none⟩ = some (.string s) := hI2.cell 0
 have d1 : wc.cell? ⟨b, 1, none⟩ = some (.int .i64 p) := hI2.cell 1
 have f1 : wc.frozen? ⟨b, 1, none⟩ = false := hI2.free 1
 have e0 : wc.cell? ⟨F, 0, none⟩ = some (.int .i64 R.val) := hIF.cell 0
 have e1 : wc.cell? ⟨F, 1, none⟩ = some (.int .i64 (R.next p)) := hIF.cell 1
 have e2 : wc.cell? ⟨F, 2, none⟩ = some (.int .i64 (R.jQ p)) := hIF.cell 2
 have e3 : wc.cell? ⟨F, 3, none⟩ = some (.bool R.gq) := hIF.cell 3
 have HI2 := hide hI2
 have HIF := hide hIF
 have HFB := hide hFb
 clear hI2 hIF c0 c1 c2
 rcases uh HF with ⟨n, q, rfl, h1, h2, h3, h4⟩ | ⟨q, rfl, h1⟩ | ⟨rfl, h1, h2⟩
 . rw [h1] at e0
   rw [h2] at e1
   rw [h3] at e2
   rw [h4] at e3
   have g0 : (wc.setCell ⟨b, 1, none⟩ (.int .i64 q)).cell? ⟨F, 0, none⟩ = some (.int .i64 n) := by
    have := (Is.other (uh HIF) ⟨b, 1, none⟩ (.int .i64 q) (Ne.symm (uh HFB))).cell 0
    rw [h1] at this
    exact this
   clear h1 h2 h3 h4
   go_wp2_with fail
   go_ret
   exact ⟨⟨rfl, (uh HI2).set 1 _⟩, hTb.set 1 _⟩
 . rw [h1] at e2
   have hq : (0 : Int) <= q := by omega
   clear h1
   go_wp2_with fail
   refine (eU b s p q _ (uh HI2)).mono ?_
   rintro e w3 ⟨rfl, hI3, hT3⟩
   go_wp2_with fail
   go_ret
   exact ⟨⟨rfl, hI3⟩, hTb.trans hT3⟩
 . rw [h1] at e2
   rw [h2] at e3
   clear h1 h2
   go_wp2_with fail
   refine (eU b s p s.size _ (uh HI2)).mono ?_
   rintro e w3 ⟨rfl, hI3, hT3⟩
   go_wp2_with fail
   go_ret
   exact ⟨⟨rfl, hI3⟩, hTb.trans hT3⟩
end Go.Proofs.YtbkpdapagfjmmaaGreatDoor
