import Derived.Test.YtbkpdapagfjmmaaGreatDoorA35
import Derived.Test.YtbkpdapagfjmmaaGreatDoorA30
set_option linter.unusedVariables false
set_option maxRecDepth 100000
set_option maxHeartbeats 16000000
namespace Go.Proofs.YtbkpdapagfjmmaaGreatDoor
open Go.RowKit
variable {κ : Prop}
theorem Kv {W : World} {B : Nat} {v : Value} {evs : List EvH} (h : RSaid W B v evs) (hB : B <= W.heap.size) (q : EvH) (hq : W.ownsRow B 206 2 q.2 q.1.hs.length (aQ q.1.hs)) (hn : evs.length <= 2 ^ 40) (ty : TypeId) :
 ∃ v' w', (Builtin.append_ #[217, 217] ty #[v, .slice (some ⟨W.heap.size, 0, none⟩) 1 1]).run Tryz.prog (W.alloc (.cells #[.int .i64 (q.1.k : Int), .int .i64 (q.1.st : Int), .int .i64 (q.1.n : Int), q.2, .string (bs q.1.t)] 261)) = .ok v' w' ∧ RSaid w' B v' (evs ++ [q]) ∧ Only (fun i => v.ownBlock = some i) W w' ∧ (∀ i, v'.ownBlock = some i -> v.ownBlock = some i ∨ W.heap.size <= i) ∧ ∃ a cap, v' = .slice a (evs.length + 1) cap := by
 obtain ⟨i, hi, hz0, hz1, hz2⟩ := info_parts EZ
 obtain ⟨qa, qc, hqf⟩ := aJ hq
 have hI := Is.new W 261 (evV q)
 have hO1 : Only (fun i => v.ownBlock = some i) W (W.alloc (.cells #[.int .i64 (q.1.k : Int), .int .i64 (q.1.st : Int), .int .i64 (q.1.n : Int), q.2, .string (bs q.1.t)] 261)) := (Only.refl _ W).alloc _
 obtain ⟨v', w', hr, h1, h2, _, h4⟩ := run_append_own_at (P := Tryz.prog) (W.alloc (.cells #[.int .i64 (q.1.k : Int), .int .i64 (q.1.st : Int), .int .i64 (q.1.n : Int), q.2, .string (bs q.1.t)] 261)) B 217 ty 261 i (.agg #[.int .i64 0, .int .i64 0, .int .i64 0, .slice none 0 0, .string ⟨#[]⟩]) 5 64 Tryz.underlying217 hi hz0 hz1 hz2 rfl (by omega) v evs.length (nH evs) (h.row.alloc _) ⟨W.heap.size, 0, none⟩ 1 1 (evV q) rfl
  (fun j u hj => by
   have e : (⟨W.heap.size, 0, none⟩ : Addr).add j = ⟨W.heap.size, j, none⟩ := by unfold Addr.add; split <;> simp_all
   rw [e]
   exact (hI.cell j).trans hj)
  (fun u hu => by
   unfold evV at hu
   rw [hqf] at hu
   simp at hu
   rcases hu with rfl | rfl | rfl | rfl | rfl <;> rfl)
  (by unfold maxLen; omega) (by omega) (by simp; omega)
 have hO2 : Only (fun i => v.ownBlock = some i) W w' := hO1.trans ((Only.gV h2).mono (fun i hi => hi.symm)) (fun _ x _ => x)
 have e1 : nH evs ++ evV q = nH (evs ++ [q]) := by simp [nH]
 have e2 : evs.length + 1 = (evs ++ [q]).length := by simp
 refine ⟨v', w', hr, ⟨by rw [<- e1, <- e2]; exact h1, fun x hx => ?_⟩, hO2, fun j hj => ?_, aJ h1⟩
 . have hx' : W.ownsRow B 206 2 x.2 x.1.hs.length (aQ x.1.hs) := by
    rcases List.mem_append.1 hx with hx | hx
    . exact h.hds x hx
    . simp at hx; subst hx; exact hq
   refine ag hx' hO2 (fun j hj hv => ?_)
   obtain ⟨cs, hc⟩ := iM h.row hv
   exact own_ne hx' hc (nbq rfl) hj.symm
 . rcases h4 with h4 | h4
   . rw [h4] at hj
     exact .inl hj
   . rw [h4] at hj
     injection hj with hj
     exact .inr (by simp at hj; omega)
theorem aT.Qi {w : World} {b : Nat} {e : Lk.En} {p : RP} (h : aT κ w b e p) {i : Nat} {T : TypeId} {cs : List Value} (hI : Is w i T cs) (h1 : T ≠ 200) (h2 : T ≠ 196) (h3 : T ≠ 54) (h4 : T ≠ 206) (h5 : T ≠ 9) (h6 : T ≠ 258) (h7 : T ≠ 265) : ¬ aI b p i := by
 obtain ⟨a1, a2, a3, a4, a5, a6, a7⟩ := h.apt hI
 have a1 := a1 h1
 have a2 := a2 h2
 have a3 := a3 h3
 have a4 := a4 h4
 have a5 := a5 h5
 have a6 := a6 h6
 have a7 := a7 h7
 rintro (k | k | k | k | k | k | k | k | k)
 . exact a1 k.symm
 . exact a2.1 k.symm
 . exact a2.2 k.symm
 . exact a3 k.symm
 . exact a4.1 i k rfl
 . exact a4.2 i k rfl
 . exact a5 i k rfl
 . exact a6 i k rfl
 . exact a7 i k rfl
structure RFd (κ : Prop) (w W : World) (b : Nat) (p : RP) (fv : Value) (fs : List Lk.Fr) (e0 : Lk.En) (i : Nat) (E : Lk.En) (p' : RP) (v : Value) (evs : List EvH) : Prop where
 re : aT κ W b E p'
 ft : ∀ i, aI b p' i -> aI b p i ∨ w.heap.size <= i
 on : Only (aI b p) w W
 fr : W.ownsRow w.heap.size 66 3 fv fs.length (aZ fs)
 sd : RSaid W w.heap.size v evs
 sa : ∀ i, jT v evs i -> ¬ aI b p' i
 en : e0.frames (fs.take i) = (evs.map Prod.fst, E)
 wf : Lk.Wf E
 rl : E.row.length <= e0.row.length + i
 el : evs.length <= 2 * i
structure RIn (κ : Prop) (w W : World) (b : Nat) (p : RP) (fv : Value) (fs : List Lk.Fr) (E : Lk.En) (p' : RP) (v : Value) (evs : List EvH) (v2 : Value) (ev2 : List EvH) : Prop where
 re : aT κ W b E p'
 ft : ∀ i, aI b p' i -> aI b p i ∨ w.heap.size <= i
 on : Only (aI b p) w W
 fr : W.ownsRow w.heap.size 66 3 fv fs.length (aZ fs)
 sd : RSaid W w.heap.size v evs
 sa : ∀ i, jT v evs i -> ¬ aI b p' i
 s2 : RSaid W w.heap.size v2 ev2
 a2 : ∀ i, jT v2 ev2 i -> ¬ aI b p' i
 vn : ∀ i, v.ownBlock = some i -> v2.ownBlock ≠ some i
section
variable {w W w2 : World} {b : Nat} {p p' : RP} {fv : Value} {fs : List Lk.Fr} {e0 E : Lk.En} {i : Nat} {v v2 : Value} {evs ev2 : List EvH}
theorem RFd.frame (h : RFd κ w W b p fv fs e0 i E p' v evs) {R : Nat} {E2 : Lk.En} {evl : List Lk.Ev} {r : Ending} (hG : fA κ W b p' R E2 evl r w2) :
 ∃ v2 ev2 p2, r = .returned (.tuple #[v2, .int .i64 (R : Int)]) ∧ ev2.map Prod.fst = evl ∧ RIn κ w w2 b p fv fs E2 p2 v evs v2 ev2 := by
 obtain ⟨v2, ev2, p2, rfl, h2, h3, h4, h5, h6, h7⟩ := hG
 have hs := h.on.size
 refine ⟨v2, ev2, p2, rfl, h2, h5, fun j hj => ?_, ?_, ag h.fr h7 (fun j hj => ?_), h.sd.only h7 (fun j hj => h.sa j hj), fun j hj hx => ?_, ⟨wV h3.row hs, fun q hq => wV (h3.hds q hq) hs⟩, h4, fun j hj hx => ?_⟩
 . rcases h6 j hj with x | x
   . exact h.ft j x
   . exact .inr (by omega)
 . refine h.on.trans h7 (fun j hx hlt => ?_)
   rcases h.ft j hx with x | x
   . exact x
   . omega
 . obtain ⟨cs, hc⟩ := iM h.fr hj
   exact h.re.Qi hc (nbq rfl) (nbq rfl) (nbq rfl) (nbq rfl) (nbq rfl) (nbq rfl) (nbq rfl)
 . rcases h6 j hx with x | x
   . exact h.sa j hj x
   . have := (h.sd.lt hj).2
     omega
 . have := (h3.row.lt j hx).1
   have := (h.sd.row.lt j hj).2
   omega
theorem RIn.push (h : RIn κ w W b p fv fs E p' v evs v2 ev2) {q : EvH} (hq : q ∈ ev2) (hn : evs.length <= 2 ^ 40) (ty : TypeId) :
 ∃ v' w', (Builtin.append_ #[217, 217] ty #[v, .slice (some ⟨W.heap.size, 0, none⟩) 1 1]).run Tryz.prog (W.alloc (.cells #[.int .i64 (q.1.k : Int), .int .i64 (q.1.st : Int), .int .i64 (q.1.n : Int), q.2, .string (bs q.1.t)] 261)) = .ok v' w' ∧ RIn κ w w' b p fv fs E p' v' (evs ++ [q]) v2 ev2 ∧ ∃ a cap, v' = .slice a (evs.length + 1) cap := by
 have hs := h.on.size
 obtain ⟨v', w', hr, h1, h2, h3, hf⟩ := Kv h.sd hs q (h.s2.hds q hq) hn ty
 have hv : ∀ j, aI b p' j -> ¬ v.ownBlock = some j := fun j hj hx => h.sa j (.inl hx) hj
 refine ⟨v', w', hr, ⟨h.re.only h2 hv, h.ft, ?_, ag h.fr h2 (fun j hj hx => ?_), h1, fun j hj hx => ?_, h.s2.only h2 (fun j hj hx => ?_), h.a2, fun j hj hx => ?_⟩, hf⟩
 . refine h.on.trans (Only.tight (h2.mono (fun j hj => .inl hj)) |>.mono (fun j hj => hj)) (fun j hx hlt => ?_)
   have := (h.sd.row.lt j hx).1
   omega
 . obtain ⟨cs, hc⟩ := iM h.sd.row hx
   exact own_ne h.fr hc (nbq rfl) hj.symm
 . rcases hj with hj | ⟨x, hx2, hj⟩
   . rcases h3 j hj with y | y
     . exact h.sa j (.inl y) hx
     . have := h.re.lt hx
       omega
   . rcases List.mem_append.1 hx2 with hm | hm
     . exact h.sa j (.inr ⟨x, hm, hj⟩) hx
     . simp at hm
       subst hm
       exact h.a2 j (.inr ⟨x, hq, hj⟩) hx
 . rcases hj with hj | ⟨x, hx2, hj⟩
   . exact h.vn j hx hj
   . obtain ⟨cs, hc⟩ := iM h.sd.row hx
     exact own_ne (h.s2.hds x hx2) hc (nbq rfl) hj.symm
 . rcases h3 j hj with y | y
   . exact h.vn j y hx
   . have := (h.s2.row.lt j hx).2
     omega
theorem RFd.next (h : RFd κ w W b p fv fs e0 i E p' v evs) {f : Lk.Fr} (hf : fs[i]? = some f) (hd : E.down = 0) (hg : Lk.Good f.k f.st f.d) {p2 : RP} {vo : Value} {ev2 : List EvH} (h2 : ev2.map Prod.fst = (E.frame f).1) (hI : RIn κ w w2 b p fv fs (E.frame f).2.2 p2 vo (evs ++ ev2) v2 ev2) :
 RFd κ w (w2.setCell ⟨b, 13, none⟩ (.int .i64 ((E.frame f).2.1 : Int))) b p fv fs e0 (i + 1) { (E.frame f).2.2 with down := (E.frame f).2.1 } p2 vo (evs ++ ev2) := by
 have hO : Only (· = b) w2 (w2.setCell ⟨b, 13, none⟩ (.int .i64 ((E.frame f).2.1 : Int))) := (Only.refl _ w2).set b 13 _ (fun _ => rfl)
 have hbl := hI.re.blk
 have hfr := Lk.uy E f
 refine ⟨hI.re.set 13 _ rfl rfl rfl rfl rfl rfl (fun x => ⟨(E.jR f).trans hd, rfl⟩), hI.ft, hI.on.trans hO (fun j hj hlt => .inl (by exact hj)), ag hI.fr hO (fun j hj hx => ?_), hI.sd.only hO (fun j hj hx => hI.sa j hj (.inl hx)), hI.sa, ?_, (h.wf.frame hg).iI _, ?_, ?_⟩
 . have hx : j = b := hx
   subst hx
   exact own_ne hI.fr hbl (nbq rfl) hj.symm
 . have hlt : i < fs.length := (List.getElem?_eq_some_iff.1 hf).1
   have ht : fs.take (i + 1) = fs.take i ++ [f] := by rw [List.take_add_one, hf]; rfl
   rw [ht, Lk.En.ku, h.en]
   simp only [Lk.En.frames, hd]
   simp [h2]
 . have := h.rl
   have h1 := hfr.1
   show (E.frame f).2.2.row.length <= _
   omega
 . have := h.el
   have h1 : ev2.length = (E.frame f).1.length := by rw [<- h2, List.length_map]
   rw [List.length_append]
   omega
end
theorem aT.known {w : World} {b : Nat} {e : Lk.En} {p : RP} (h : aT κ w b e p) (hk : e.down = 0 -> κ) : aT True w b e p := by
 obtain ⟨s, f, r1, r2⟩ := h.rd
 exact ⟨h.blk, h.out, h.inn, ⟨s, f, r1, fun _ hd => r2 (hk hd) hd⟩, h.row, h.own, h.oth, h.ne, h.nv⟩
theorem aT.fed {w w' : World} {b : Nat} {e : Lk.En} {p : RP} (h : aT True w b e p) {s : ByteArray} {f : Int} {r : Lk.Bs} (hI : Is w' p.rb 54 [.string s, .int .i64 f]) (hT : Turns p.rb w w') (hs : f = 0 -> s.data.toList = r) : aT (f = 0) w' b { e with rest := r } p := by
 have hO : Only (· = p.rb) w w' := Only.dP hT
 obtain ⟨s0, f0, hr0, _⟩ := h.rd
 obtain ⟨a1, a2, _, a4, a5, a6, a7⟩ := h.apt hr0
 have a1 := a1 (nbq rfl)
 have a2 := a2 (nbq rfl)
 have a4 := a4 (nbq rfl)
 have a5 := a5 (nbq rfl)
 have a6 := a6 (nbq rfl)
 have a7 := a7 (nbq rfl)
 exact ⟨h.blk.only hO a1, h.out.only hO a2.1 a4.1, h.inn.only hO a2.2 a4.2, ⟨s, f, hI, fun hk _ => ⟨hk, hs hk⟩⟩, h.row.only hO a5, ag h.own hO a6, ag h.oth hO a7, h.ne, h.nv⟩
theorem RFd.done {w W W' : World} {b : Nat} {p p' : RP} {fv : Value} {fs : List Lk.Fr} {e0 E E' : Lk.En} {i : Nat} {v : Value} {evs : List EvH} (h : RFd κ w W b p fv fs e0 i E p' v evs) (hP : aj κ W b p' E' W') (hk : E'.down = 0 -> κ) :
 fA True w b p E'.down E' (evs.map Prod.fst) (.returned (.tuple #[v, .int .i64 (E'.down : Int)])) W' := by
 obtain ⟨p2, h1, h2, h3⟩ := hP
 have hs := h.on.size
 refine ⟨v, evs, p2, rfl, rfl, h.sd.only h3 (fun j hj => h.sa j hj), fun j hj hx => ?_, h1.known hk, fun j hj => ?_, h.on.trans h3 (fun j hx hlt => ?_)⟩
 . rcases h2 j hx with x | x
   . exact h.sa j hj x
   . have := (h.sd.lt hj).2
     omega
 . rcases h2 j hj with x | x
   . exact h.ft j x
   . exact .inr (by omega)
 . rcases h.ft j hx with x | x
   . exact x
   . omega
theorem RFd.all {w W : World} {b : Nat} {p p' : RP} {fv : Value} {fs : List Lk.Fr} {e0 E : Lk.En} {i : Nat} {v : Value} {evs : List EvH} (h : RFd κ w W b p fv fs e0 i E p' v evs) (hx : ¬ i < fs.length ∨ E.down ≠ 0) : e0.frames fs = (evs.map Prod.fst, E) := by
 by_cases hi : i < fs.length
 . have hd : E.down ≠ 0 := hx.resolve_left (fun h => h hi)
   have e : fs.take i ++ fs.drop i = fs := List.take_append_drop i fs
   rw [<- e, Lk.En.ku, h.en]
   simp only [Lk.En.mZ _ _ hd]
   simp
 . have := h.en
   rw [List.take_of_length_le (by omega)] at this
   exact this
theorem Kw (b : Nat) (e : Lk.En) (p : RP) (t : ByteArray) (w : World) (h : aT True w b e p) (hw : Lk.Wf e) (ht : t.size <= 2 ^ 39) (hl : e.row.length <= 2 ^ 39) :
 Calls Tryz.prog 108 #[.pointer (some ⟨b, 0, none⟩), .string t] w (fA True w b p (e.feed t.data.toList).2.down (e.feed t.data.toList).2 (e.feed t.data.toList).1) := by
 have c13 : w.cell? ⟨b, 13, none⟩ = some (.int .i64 (e.down : Int)) := h.blk.cell 13
 have hbl := h.blk.lt
 by_cases hdn : e.down = 0
 . obtain ⟨s, f, hr1, hr2⟩ := h.rd
   obtain ⟨rfl, hs⟩ := hr2 trivial hdn
   have c4 : w.cell? ⟨b, 4, none⟩ = some (ptr p.rb) := h.blk.cell 4
   unfold ptr at c4
   have h72 : e.rest.length <= 72 := by
    have := Lk.lW e.rest (by rw [hw.rest])
    rw [hw.rest] at this
    exact this
   have hrf := sN p.rb s t e.rest 0 w (fun _ => ⟨hs, h72⟩) ht hr1
   simp only [Lk.fU, Lk.bC, Lk.jK, if_true] at hrf
   have hgood := (Lk.kY (e.rest ++ t.data.toList)).1
   have hlenA := Lk.Ci (e.rest ++ t.data.toList)
   have uz := Lk.qV (e.rest ++ t.data.toList)
   have htl : t.data.toList.length <= 2 ^ 39 := by rw [<- af]; exact ht
   rw [List.length_append] at hlenA
   have hF : e.feed t.data.toList = (((({ e with rest := (Lk.all (e.rest ++ t.data.toList)).2.2 } : Lk.En).frames (Lk.all (e.rest ++ t.data.toList)).1).1), Lk.En.falls (if (({ e with rest := (Lk.all (e.rest ++ t.data.toList)).2.2 } : Lk.En).frames (Lk.all (e.rest ++ t.data.toList)).1).2.down = 0 then { (({ e with rest := (Lk.all (e.rest ++ t.data.toList)).2.2 } : Lk.En).frames (Lk.all (e.rest ++ t.data.toList)).1).2 with down := (Lk.all (e.rest ++ t.data.toList)).2.1 } else (({ e with rest := (Lk.all (e.rest ++ t.data.toList)).2.2 } : Lk.En).frames (Lk.all (e.rest ++ t.data.toList)).1).2)) := by
    unfold Lk.En.feed
    rw [if_neg (by rw [hdn]; simp)]
   generalize hA : Lk.all (e.rest ++ t.data.toList) = A at *
   obtain ⟨fs, flt, rest⟩ := A
   simp only at hrf hgood hlenA uz hF
   have RY : fs.length <= 2 ^ 38 := by omega
   have Yh : (fs.length : Int) <= 1000000000000 := by omega
   have HRF := hide hrf
   have HST : Hid (∀ W fv s', W.ownsRow w.heap.size 66 3 fv fs.length (aZ fs) -> Is W p.rb 54 [.string s', .int .i64 (flt : Int)] -> ((flt : Int) = 0 -> s'.data.toList = rest) -> Turns p.rb w W -> RFd (flt = 0) w W b p fv fs { e with rest := rest } 0 { e with rest := rest } p gQ []) := by
    intro W fv s' h1 h2 h3 h4
    have hre := h.fed h2 h4 h3
    have hk : ((flt : Int) = 0) = (flt = 0) := by simp
    rw [hk] at hre
    refine ⟨hre, fun _ x => .inl x, (Only.dP h4).mono (fun i hi => .inr (.inr (.inr (.inl hi)))), h1, RSaid.nil _ _, fun i hi => ?_, by simp [Lk.En.frames], hw.at uz, by simp, by simp⟩
    rcases hi with hi | ⟨q, hq, _⟩
    . cases hi
    . cases hq
   have HG := hide hgood
   generalize hX : e.feed t.data.toList = X at *
   have HF := hide hF
   have HL := hide (⟨hl, RY⟩ : _ ∧ _)
   clear hrf hr1 hr2 hs h72 hlenA uz htl hA hX hF hgood h hw hl ht RY
   rw [hdn] at c13
   clear hdn
   go_enter Tryz.func108, Tryz.ntmps108
   go_wp2_with fail
   refine (uh HRF).mono ?_
   rintro r w1 ⟨fv, rfl, ho1, ⟨s', hI1, hs1⟩, hT1⟩
   have HR0 := hide (uh HST w1 fv s' ho1 hI1 hs1 hT1)
   obtain ⟨fa, fc, rfl⟩ := aJ ho1
   clear ho1 hI1 hs1 hT1 HST HRF c4 c13 hbl
   go_wp2_with fail
   go_loopw [8, 9] (fun v8 v9 wr => ∃ (i : Nat) (E : Lk.En) (p' : RP) (evs : List EvH), i <= fs.length ∧ v9 = .int .i64 i ∧ Hid (RFd (flt = 0) w wr b p (.slice fa fs.length fc) fs { e with rest := rest } i E p' v8 evs)) (fun _ v9 _ => fs.length - (intOf v9).toNat)
   case atStart => exact ⟨0, _, _, _, Nat.zero_le _, rfl, HR0⟩
   case round =>
    clear HR0
    obtain ⟨i, E, p', evs, hi, rfl, HR⟩ := hrel
    have hR := uh HR
    obtain ⟨oa, oc, rfl⟩ := aJ hR.sd.row
    have c13 : wr.cell? ⟨b, 13, none⟩ = some (.int .i64 (E.down : Int)) := hR.re.blk.cell 13
    have c11 : wr.cell? ⟨b, 11, none⟩ = some (.bool E.iH) := hR.re.blk.cell 11
    have hbl := hR.re.blk.lt
    have f13 := hR.re.blk.free 13
    by_cases hgo : i < fs.length ∧ E.down = 0
    . obtain ⟨hlt, hdn⟩ := hgo
      have hlt' : (i : Int) < fs.length := by omega
      rw [hdn] at c13
      obtain ⟨x, hx⟩ : ∃ x, fs[i]? = some x := ⟨_, List.getElem?_eq_getElem hlt⟩
      have hgx := uh HG x (List.mem_of_getElem? hx)
      have hrl := hR.rl
      have hel := hR.el
      obtain ⟨g, cap, hfe, _, hgl, hcap, hcs, _⟩ := ed (fun f : Lk.Fr => [Value.int .i64 (f.k : Int), .int .i64 (f.st : Int), .string ⟨f.d.toArray⟩]) (fun _ => rfl) hR.fr hx
      obtain ⟨rfl, rfl⟩ : fa = some ⟨g, 0, none⟩ ∧ fc = cap := by
       injection hfe with k1 k2 k3
       exact ⟨k1, k3⟩
      have a0 : wr.cell? ⟨g, i * 3, none⟩ = some (.int .i64 (x.k : Int)) := hcs 0 (by omega)
      have a1 : wr.cell? ⟨g, i * 3 + 1, none⟩ = some (.int .i64 (x.st : Int)) := hcs 1 (by omega)
      have a2 : wr.cell? ⟨g, i * 3 + 2, none⟩ = some (.string (bs x.d)) := hcs 2 (by omega)
      have HFR := hide (Hf b E p' x wr hR.re hR.wf hgx (by have := (uh HL).1; have := (uh HL).2; have e1 : ({ e with rest := rest } : Lk.En).row.length = e.row.length := rfl; omega))
      have HLE := hide (by have := (uh HL).2; have h2 := Lk.uy E x; omega : evs.length + (E.frame x).1.length <= 2 ^ 40)
      have HXX := hide (⟨hx, hdn, hgx⟩ : _ ∧ _ ∧ _)
      generalize hFX : E.frame x = FX at *
      clear hR hfe hcs hx hgx hrl hel hdn
      go_wp2_with fail
      refine (uh HFR).mono ?_
      rintro r w2 hG
      obtain ⟨v2, ev2, p2, rfl, h2, hI2⟩ := (uh HR).frame hG
      have HI0 : Hid (RIn (flt = 0) w w2 b p (.slice (some ⟨g, 0, none⟩) fs.length fc) fs FX.2.2 p2 (.slice oa evs.length oc) (evs ++ ev2.take 0) v2 ev2) := by rw [List.take_zero, List.append_nil]; exact hI2
      obtain ⟨va, vc, rfl⟩ := aJ hI2.s2.row
      have H2 := hide h2
      have hev2 : ev2.length <= 2 := by
       have := Lk.uy E x
       rw [hFX] at this
       rw [<- List.length_map (f := Prod.fst), h2]
       exact this.2
      have Xd := hide (by have := uh HLE; rw [<- h2, List.length_map] at this; exact this : evs.length + ev2.length <= 2 ^ 40)
      clear hG h2 hI2 HFR HLE c13 c11 hbl f13 a0 a1 a2 hgl
      go_wp2_with fail
      go_loopw [8, 12] (fun v8 v12 wx => ∃ (k : Nat), k <= ev2.length ∧ v12 = .int .i64 k ∧ Hid (RIn (flt = 0) w wx b p (.slice (some ⟨g, 0, none⟩) fs.length fc) fs FX.2.2 p2 v8 (evs ++ ev2.take k) (.slice va ev2.length vc) ev2)) (fun _ v12 _ => ev2.length - (intOf v12).toNat)
      case atStart => exact ⟨0, Nat.zero_le _, rfl, HI0⟩
      case round =>
       clear HI0
       obtain ⟨k, hk, rfl, HI⟩ := hrel
       have hI := uh HI
       obtain ⟨ua, uc, rfl⟩ := aJ hI.sd.row
       by_cases Xe : k < ev2.length
       . have Ux : (k : Int) < ev2.length := by omega
         obtain ⟨q, hq⟩ : ∃ q, ev2[k]? = some q := ⟨_, List.getElem?_eq_getElem Xe⟩
         obtain ⟨g2, cap2, hve, _, UX, hcap2, hcs2, _⟩ := ed evV (fun _ => rfl) hI.s2.row hq
         obtain ⟨rfl, rfl⟩ : va = some ⟨g2, 0, none⟩ ∧ vc = cap2 := by
          injection hve with k1 k2 k3
          exact ⟨k1, k3⟩
         have e0 : wr.cell? ⟨g2, k * 5, none⟩ = some (.int .i64 (q.1.k : Int)) := hcs2 0 (by omega)
         have e1 : wr.cell? ⟨g2, k * 5 + 1, none⟩ = some (.int .i64 (q.1.st : Int)) := hcs2 1 (by omega)
         have e2 : wr.cell? ⟨g2, k * 5 + 2, none⟩ = some (.int .i64 (q.1.n : Int)) := hcs2 2 (by omega)
         have e3 : wr.cell? ⟨g2, k * 5 + 3, none⟩ = some q.2 := hcs2 3 (by omega)
         have e4 : wr.cell? ⟨g2, k * 5 + 4, none⟩ = some (.string (bs q.1.t)) := hcs2 4 (by omega)
         obtain ⟨v', w', hr, hI', hf'⟩ := hI.push (List.mem_of_getElem? hq) (by have := uh Xd; rw [List.length_append, List.length_take]; omega) 217
         have ht1 : (evs ++ ev2.take k) ++ [q] = evs ++ ev2.take (k + 1) := by rw [List.take_add_one, hq, List.append_assoc]; rfl
         rw [ht1] at hI'
         obtain ⟨ya, yc, hq2⟩ := aJ (hI.s2.hds q (List.mem_of_getElem? hq))
         rw [hq2] at e3 hr
         have HA := hide hr
         have HN := hide hI'
         clear hI hve hcs2 hr hI' ht1 hq hq2 hf'
         go_wp2_with (at_builtin; refine Lib.wpList_append_run _ rfl _ _ _ _ rfl _ _ rfl rfl _ _ (uh HA) ?_)
         go_roundw
         case rel => exact ⟨k + 1, by omega, by go_num, uh HN⟩
         case measure => simp [intOf]; omega
       . have Ux : ¬ (k : Int) < ev2.length := by omega
         have hkk : ev2.take k = ev2 := List.take_of_length_le (by omega)
         have hI2 : RIn (flt = 0) w wr b p (.slice (some ⟨g, 0, none⟩) fs.length fc) fs (E.frame x).2.2 p2 (.slice ua (evs ++ ev2.take k).length uc) (evs ++ ev2) (.slice va ev2.length vc) ev2 := by
          rw [hkk] at hI ⊢
          rw [hFX]
          exact hI
         have hN := (uh HR).next (uh HXX).1 (uh HXX).2.1 (uh HXX).2.2 (by rw [hFX]; exact uh H2) hI2
         rw [hFX] at hN
         have c13 : wr.cell? ⟨b, 13, none⟩ = some (.int .i64 (FX.2.2.down : Int)) := hI.re.blk.cell 13
         have hbl := hI.re.blk.lt
         have f13 := hI.re.blk.free 13
         have HN := hide hN
         clear hI hI2 hN hkk
         go_wp2_with fail
         go_roundw
         case rel => exact ⟨i + 1, _, _, _, by omega, by go_num, uh HN⟩
         case measure => simp [intOf]; omega
    . have hall := hR.all (by omega)
      have hFX := uh HF
      rw [hall] at hFX
      simp only at hFX
      have HD := hide (fun (E' : Lk.En) (W' : World) (hP : aj (flt = 0) wr b p' E' W') (hk : E'.down = 0 -> flt = 0) => hR.done hP hk)
      have hrl := hR.rl
      have hrow : E.row.length <= 2 ^ 40 := by have := (uh HL).1; have := (uh HL).2; have e1 : ({ e with rest := rest } : Lk.En).row.length = e.row.length := rfl; omega
      have HRE := hide (⟨hR.re, hR.wf, hrow⟩ : _ ∧ _ ∧ _)
      clear hall hrl hrow HF HG HL
      by_cases hdn : E.down = 0
      . have hlt' : ¬ (i : Int) < fs.length := by omega
        rw [if_pos hdn] at hFX
        have hset := hR.re.set (e' := { E with down := flt }) 13 (.int .i64 (flt : Int)) rfl rfl rfl rfl rfl rfl (fun x => ⟨hdn, rfl⟩)
        have hO : Only (aI b p') wr (wr.setCell ⟨b, 13, none⟩ (.int .i64 (flt : Int))) := (Only.refl _ wr).set b 13 _ (fun _ => .inl rfl)
        rw [hdn] at c13
        by_cases RZ : flt ≠ 0 ∧ E.iH = false
        . obtain ⟨hf0, hb0⟩ := RZ
          have Xf : ¬ (flt : Int) = 0 := by omega
          have hE : ({ E with down := flt } : Lk.En).falls = ({ E with down := flt } : Lk.En).bye := by unfold Lk.En.falls; rw [if_pos ⟨hf0, hb0⟩]
          rw [hE] at hFX
          rw [hb0] at c11
          have HB := hide (xW b { E with down := flt } p' _ hset ((uh HRE).2.1.iI flt) (by show E.row.length <= _; have := (uh HRE).2.2; omega))
          have HO := hide hO
          have HX := hide hFX
          have HDN := hide hf0
          clear hset hO hFX hR hE hf0 hb0 hdn hgo
          go_wp2_with fail
          refine (uh HB).mono ?_
          rintro r w2 ⟨rfl, hP⟩
          have jD : Hid (∀ W', Below w2.heap.size w2 W' -> fA True w b p X.2.down X.2 X.1 (.returned (.tuple #[.slice oa evs.length oc, .int .i64 (X.2.down : Int)])) W') := by
           intro W' hb'
           have := uh HD _ _ ((aj.on (uh HO) hP).after hb') (fun x => absurd x (by show flt ≠ 0; exact uh HDN))
           rw [uh HX]
           exact this
          have q13 : w2.cell? ⟨b, 13, none⟩ = some (.int .i64 (X.2.down : Int)) := by
           obtain ⟨p9, h9, _⟩ := hP
           rw [uh HX]
           exact h9.blk.cell 13
          have Vx : b < w2.heap.size := by
           obtain ⟨p9, h9, _⟩ := hP
           exact h9.blk.lt
          clear hP
          go_wp2_with fail
          go_quiet (fail)
          go_wp2_with fail
          go_ret2
          exact uh jD _ ⟨rfl, rfl, rfl, Nat.le_refl _, fun _ _ => rfl⟩
        . have hE : ({ E with down := flt } : Lk.En).falls = { E with down := flt } := by unfold Lk.En.falls; rw [if_neg RZ]
          rw [hE] at hFX
          have jD : Hid (∀ W', Below wr.heap.size (wr.setCell ⟨b, 13, none⟩ (.int .i64 (flt : Int))) W' -> fA True w b p X.2.down X.2 X.1 (.returned (.tuple #[.slice oa evs.length oc, .int .i64 (flt : Int)])) W') := by
           intro W' hb'
           rw [hFX]
           exact uh HD _ _ ⟨p', hset.below (by simpa using hb'), fun _ x => .inl x, hO.below (by simpa using hb')⟩ (fun x => x)
          clear hset hO hFX hR hE hdn hgo
          by_cases hf0 : flt = 0
          . subst hf0
            clear RZ
            go_wp2_with fail
            go_quiet (fail)
            go_wp2_with fail
            go_ret2
            exact uh jD _ ⟨rfl, rfl, rfl, Nat.le_refl _, fun _ _ => rfl⟩
          . have Xf : ¬ (flt : Int) = 0 := by omega
            have hb1 : E.iH = true := by
             cases hb : E.iH with
             | true => rfl
             | false => exact absurd ⟨hf0, hb⟩ RZ
            rw [hb1] at c11
            clear RZ hf0 hb1
            go_wp2_with fail
            go_quiet (fail)
            go_wp2_with fail
            go_ret2
            exact uh jD _ ⟨rfl, rfl, rfl, Nat.le_refl _, fun _ _ => rfl⟩
      . have hd' : ¬ (E.down : Int) = 0 := by omega
        rw [if_neg hdn] at hFX
        by_cases hb0 : E.iH = false
        . have hE : E.falls = E.bye := by unfold Lk.En.falls; rw [if_pos ⟨hdn, hb0⟩]
          rw [hE] at hFX
          rw [hb0] at c11
          have HB := hide (xW b E p' _ hR.re (uh HRE).2.1 (by have := (uh HRE).2.2; omega))
          have HO := hide (Only.refl (aI b p') wr)
          have HX := hide hFX
          have HDN := hide hdn
          clear hFX hR hE hb0 hdn hgo
          generalize (E.down : Int) = DN at *
          by_cases hlt : i < fs.length
          . have hlt' : (i : Int) < fs.length := by omega
            go_wp2_with fail
            refine (uh HB).mono ?_
            rintro r w2 ⟨rfl, hP⟩
            have jD : Hid (∀ W', Below w2.heap.size w2 W' -> fA True w b p X.2.down X.2 X.1 (.returned (.tuple #[.slice oa evs.length oc, .int .i64 (X.2.down : Int)])) W') := by
             intro W' hb'
             have := uh HD _ _ ((aj.on (uh HO) hP).after hb') (fun x => absurd x (by show E.down ≠ 0; exact uh HDN))
             rw [uh HX]
             exact this
            have q13 : w2.cell? ⟨b, 13, none⟩ = some (.int .i64 (X.2.down : Int)) := by
             obtain ⟨p9, h9, _⟩ := hP
             rw [uh HX]
             exact h9.blk.cell 13
            have Vx : b < w2.heap.size := by
             obtain ⟨p9, h9, _⟩ := hP
             exact h9.blk.lt
            clear hP
            go_wp2_with fail
            go_quiet (fail)
            go_wp2_with fail
            go_ret2
            exact uh jD _ ⟨rfl, rfl, rfl, Nat.le_refl _, fun _ _ => rfl⟩
          . have hlt' : ¬ (i : Int) < fs.length := by omega
            go_wp2_with fail
            refine (uh HB).mono ?_
            rintro r w2 ⟨rfl, hP⟩
            have jD : Hid (∀ W', Below w2.heap.size w2 W' -> fA True w b p X.2.down X.2 X.1 (.returned (.tuple #[.slice oa evs.length oc, .int .i64 (X.2.down : Int)])) W') := by
             intro W' hb'
             have := uh HD _ _ ((aj.on (uh HO) hP).after hb') (fun x => absurd x (by show E.down ≠ 0; exact uh HDN))
             rw [uh HX]
             exact this
            have q13 : w2.cell? ⟨b, 13, none⟩ = some (.int .i64 (X.2.down : Int)) := by
             obtain ⟨p9, h9, _⟩ := hP
             rw [uh HX]
             exact h9.blk.cell 13
            have Vx : b < w2.heap.size := by
             obtain ⟨p9, h9, _⟩ := hP
             exact h9.blk.lt
            clear hP
            go_wp2_with fail
            go_quiet (fail)
            go_wp2_with fail
            go_ret2
            exact uh jD _ ⟨rfl, rfl, rfl, Nat.le_refl _, fun _ _ => rfl⟩
        . have hb1 : E.iH = true := by simpa using hb0
          have hE : E.falls = E := by unfold Lk.En.falls; rw [if_neg (fun x => hb0 x.2)]
          rw [hE] at hFX
          rw [hb1] at c11
          have jD : Hid (∀ W', Below wr.heap.size wr W' -> fA True w b p X.2.down X.2 X.1 (.returned (.tuple #[.slice oa evs.length oc, .int .i64 (E.down : Int)])) W') := by
           intro W' hb'
           rw [hFX]
           exact uh HD _ _ ((aj.same hR.re).after hb') (fun x => absurd x hdn)
          clear hFX hR hE hb0 hb1 hdn hgo
          generalize (E.down : Int) = DN at *
          by_cases hlt : i < fs.length
          . have hlt' : (i : Int) < fs.length := by omega
            go_wp2_with fail
            go_quiet (fail)
            go_wp2_with fail
            go_ret2
            exact uh jD _ ⟨rfl, rfl, rfl, Nat.le_refl _, fun _ _ => rfl⟩
          . have hlt' : ¬ (i : Int) < fs.length := by omega
            go_wp2_with fail
            go_quiet (fail)
            go_wp2_with fail
            go_ret2
            exact uh jD _ ⟨rfl, rfl, rfl, Nat.le_refl _, fun _ _ => rfl⟩
 . have hF : e.feed t.data.toList = ([], e) := e.jP _ hdn
   rw [hF]
   have HF : Hid (∀ W', Below w.heap.size w W' -> fA True w b p e.down e [] (.returned (.tuple #[.slice none 0 0, .int .i64 (e.down : Int)])) W') := fun W' hb' => fA.none ((aj.same h).after hb')
   have hd' : ¬ (e.down : Int) = 0 := by omega
   simp only
   generalize (e.down : Int) = DN at *
   clear h hw hF hdn
   go_enter Tryz.func108, Tryz.ntmps108
   go_wp2_with fail
   go_quiet (fail)
   go_wp2_with fail
   go_ret2
   exact uh HF _ ⟨rfl, rfl, rfl, Nat.le_refl _, fun _ _ => rfl⟩
theorem uA (f win : Int) (hw0 : 0 <= win) (hw : win <= 200) (w : World) :
 Calls Tryz.prog 40 #[.int .i64 f, .int .i64 win] w fun e w' => e = .returned (.agg #[aU, .int .i64 100, .slice none 0 0, .int .i64 win, .int .i64 f, .int .i64 0, .int .i64 (2 * win), .slice none 0 0]) ∧ Below w.heap.size w w' := by
 have HX := hide (Is.new w 93 [.nilFunc, .int .i64 0, .slice none 0 0, .int .i64 0, .int .i64 0, .int .i64 0, .int .i64 0, .slice none 0 0])
 have HB := hide ((Below.refl w.heap.size w).alloc (Nat.le_refl _) (.cells #[.nilFunc, .int .i64 0, .slice none 0 0, .int .i64 0, .int .i64 0, .int .i64 0, .int .i64 0, .slice none 0 0] 93))
 go_enter Tryz.func40, Tryz.ntmps40
 go_wp2_with fail
 refine (lI _ _).mono ?_
 rintro e w1 ⟨rfl, hb⟩
 have hX1 := (uh HX).below hb (by simp)
 have hbel := (uh HB).trans (hb.mono (by simp))
 have n0 := hX1.cell 0
 have n1 := hX1.cell 1
 have n2 := hX1.cell 2
 have n3 := hX1.cell 3
 have n4 := hX1.cell 4
 have n5 := hX1.cell 5
 have n6 := hX1.cell 6
 have n7 := hX1.cell 7
 have g0 := hX1.free 0
 have g1 := hX1.free 1
 have g2 := hX1.free 2
 have g3 := hX1.free 3
 have g4 := hX1.free 4
 have g5 := hX1.free 5
 have g6 := hX1.free 6
 have g7 := hX1.free 7
 have hl := hX1.lt
 simp only [List.getElem?_cons_zero, List.getElem?_cons_succ] at n0 n1 n2 n3 n4 n5 n6 n7
 clear hb hX1
 go_wp2_with fail
 exact bodyPost_ret (v := .agg #[aU, .int .i64 100, .slice none 0 0, .int .i64 win, .int .i64 f, .int .i64 0, .int .i64 (2 * win), .slice none 0 0]) (by simp [results, Tryz.results40, go_sem, n0, n1, n2, n3, n4, n5, n6, n7]) rfl ⟨rfl, (((((((hbel.setCell (by simp) _).setCell (by simp) _).setCell (by simp) _).setCell (by simp) _).setCell (by simp) _).setCell (by simp) _).setCell (by simp) _).setCell (by simp) _⟩
theorem uZ (f win : Int) (hw0 : 0 <= win) (hw : win <= 200) (w : World) :
 Calls Tryz.prog 41 #[.int .i64 f, .int .i64 win] w fun e w' => ∃ m, e = .returned (.agg #[aU, .int .i64 100, .slice none 0 0, .int .i64 win, .int .i64 f, .int .i64 (2 * win), .map (some m)]) ∧ w.heap.size <= m ∧ bW Tryz.prog 3 w' m 0 (fun _ => none) ∧ Below w.heap.size w w' := by
 have HX := hide (Is.new w 96 [.nilFunc, .int .i64 0, .slice none 0 0, .int .i64 0, .int .i64 0, .int .i64 0, .map none])
 have HB := hide ((Below.refl w.heap.size w).alloc (Nat.le_refl _) (.cells #[.nilFunc, .int .i64 0, .slice none 0 0, .int .i64 0, .int .i64 0, .int .i64 0, .map none] 96))
 have hmm := @run_makeMap Tryz.prog
 go_enter Tryz.func41, Tryz.ntmps41
 go_wp2_with fail
 refine (lI _ _).mono ?_
 rintro e w1 ⟨rfl, hb⟩
 have hM := bW.made Tryz.prog 3 w1
 have hX1 := ((uh HX).below hb (by simp)).alloc (.map #[] 0)
 have hs1 : w.heap.size + 1 <= w1.heap.size := by have := hb.size; simpa using this
 have hbel := ((uh HB).trans (hb.mono (by simp))).alloc (by omega) (.map #[] 0)
 have n0 := hX1.cell 0
 have n1 := hX1.cell 1
 have n2 := hX1.cell 2
 have n3 := hX1.cell 3
 have n4 := hX1.cell 4
 have n5 := hX1.cell 5
 have n6 := hX1.cell 6
 have g0 := hX1.free 0
 have g1 := hX1.free 1
 have g2 := hX1.free 2
 have g3 := hX1.free 3
 have g4 := hX1.free 4
 have g5 := hX1.free 5
 have g6 := hX1.free 6
 have hl := hX1.lt
 simp only [List.getElem?_cons_zero, List.getElem?_cons_succ] at n0 n1 n2 n3 n4 n5 n6
 have HM := hide (⟨hM, hbel⟩ : _ ∧ _)
 clear hb hX1 hM hbel
 go_wp2_with fail
 obtain ⟨hM, hbel⟩ := uh HM
 refine bodyPost_ret (v := .agg #[aU, .int .i64 100, .slice none 0 0, .int .i64 win, .int .i64 f, .int .i64 (2 * win), .map (some w1.heap.size)]) (by simp [results, Tryz.results41, go_sem, n0, n1, n2, n3, n4, n5, n6]) rfl ⟨w1.heap.size, rfl, by omega, ?_, ((((((hbel.setCell (by simp) _).setCell (by simp) _).setCell (by simp) _).setCell (by simp) _).setCell (by simp) _).setCell (by simp) _).setCell (by simp) _⟩
 have hO : ∀ W, Only (· = w.heap.size) (w1.alloc (.map #[] 0)) W -> bW Tryz.prog 3 W w1.heap.size 0 (fun _ => none) := fun W k => hM.only k (by omega)
 exact hO _ ((((((((Only.refl (· = w.heap.size) _).set w.heap.size 0 _ (fun _ => rfl)).set w.heap.size 1 _ (fun _ => rfl)).set w.heap.size 2 _ (fun _ => rfl)).set w.heap.size 3 _ (fun _ => rfl)).set w.heap.size 4 _ (fun _ => rfl)).set w.heap.size 5 _ (fun _ => rfl)).set w.heap.size 6 _ (fun _ => rfl))
def BD (m : Nat) : PD := ⟨gQ, gQ, gQ, [], [], m, 0, fun _ => .none, []⟩
theorem Bc {b m i : Nat} (h : foot b (BD m) i) : i = b ∨ i = m := by
 rcases h with hi | hi | hi | hi | hi | hi | hi | ⟨k, hi⟩
 . exact .inl hi
 . cases hi
 . cases hi
 . cases hi
 . cases hi
 . cases hi
 . exact .inr hi
 . cases hi
theorem NL {w : World} {b m s win : Nat} (hs : s <= 1) (h1 : 1 <= win) (h2 : win <= 200) (hb : 0 < b) (hm : 0 < m) (hI : Is w b 101 (fH (Lk.En.new s win) (BD m)).cells) (hM : bW Tryz.prog 3 w m 0 (fun _ => none)) : Live w b (Lk.En.new s win) (BD m) :=
 ⟨⟨hI, Chain.nil w⟩, rfl, by simp [BD], World.ownsRow_nil _ _ _ _, World.ownsRow_nil _ _ _ _, World.ownsRow_nil _ _ _ _, ⟨by simp [gJ, Lk.En.new, BD], fun i o p ho _ => by simp [gJ, Lk.En.new] at ho⟩, by simp [BD], by simp [BD], hM, by simp [BD], by simp [Lk.En.new], fun _ _ => rfl, by simp [BD], Lk.Wf.new hs h1 h2, fun i hi => by rcases Bc hi with rfl | rfl <;> assumption⟩
theorem OQ (s win : Nat) (hs : s <= 1) (h1 : 1 <= win) (h2 : win <= 200) (w : World) (hw : 0 < w.heap.size) :
 Calls Tryz.prog 17 #[.int .i64 (s : Int), .int .i64 (win : Int)] w fun e w' => ∃ b d, e = .returned (.tuple #[.pointer (some ⟨b, 0, none⟩), .int .i64 0]) ∧ kM w' b (Lk.En.new s win) d ∧ (∀ i, foot b d i -> w.heap.size <= i) ∧ Below w.heap.size w w' := by
 have Uy : s = 0 ∨ s = 1 := by omega
 have hw1 : ¬ (win : Int) < 1 := by omega
 have hw2 : ¬ 200 < (win : Int) := by omega
 have HO := hide (uA (1 + (s : Int)) win (by omega) (by omega) w)
 have HN := hide (fun w1 => uZ (2 - (s : Int)) win (by omega) (by omega) w1)
 have HS := hide (⟨hs, h1, h2, hw⟩ : _ ∧ _ ∧ _ ∧ _)
 clear h1 h2 hw hs
 rcases Uy with rfl | rfl
 all_goals
  go_enter Tryz.func17, Tryz.ntmps17
  go_wp2_with fail
  refine (uh HO).mono ?_
  rintro r w1 ⟨rfl, hb1⟩
  go_wp2_with fail
  refine (uh HN w1).mono ?_
  rintro r w2 ⟨m, rfl, hm, hM, hb2⟩
  have HX := hide (⟨hb1, hm, hM, hb2⟩ : _ ∧ _ ∧ _ ∧ _)
  clear hb1 hm hM hb2
  go_wp2_with fail
  go_ret2
  obtain ⟨hb1, hm, hM, hb2⟩ := uh HX
  obtain ⟨hs, h1, h2, hw⟩ := uh HS
  have s1 := hb1.size
  have s2 := hb2.size
  refine ⟨w2.heap.size, BD m, rfl, .inl ⟨NL hs h1 h2 (by omega) (by omega) (Is.new w2 101 _) (hM.only ((Only.refl (fun _ => False) w2).alloc _) (fun h => h)), rfl⟩, fun i hi => ?_, (hb1.trans (hb2.mono hb1.size)).alloc (by omega) _⟩
  rcases Bc hi with rfl | rfl <;> omega
end Go.Proofs.YtbkpdapagfjmmaaGreatDoor
