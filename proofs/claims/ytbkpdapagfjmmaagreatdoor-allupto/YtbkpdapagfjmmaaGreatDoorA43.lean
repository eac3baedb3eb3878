import Derived.Test.YtbkpdapagfjmmaaGreatDoorA40
set_option linter.unusedVariables false
set_option maxRecDepth 100000
set_option maxHeartbeats 16000000
namespace Go.Proofs.YtbkpdapagfjmmaaGreatDoor
open Go.RowKit
namespace Lk
theorem En.Kz (e : En) (n : Nat) : (e.back n).down = e.down := by unfold En.back; split <;> rfl
theorem En.H6 (e : En) (t : Bs) : (e.iy t).2.down = e.down := by unfold En.iy; split <;> (try split) <;> rfl
theorem En.KA (e : En) : e.iC.2.down = e.down := by unfold En.iC; split <;> (try split) <;> rfl
theorem En.Be (e : En) (l : List Hd) (t : Bs) : (e.aW l t).2.down = e.down := by
 unfold En.aW
 split
 . rfl
 . split
   . rfl
   . split
     . rfl
     . split
       . rfl
       . split <;> rfl
theorem En.yT (e : En) (k n : Int) : (e.aP k n).2.down = e.down := by
 unfold En.aP
 split
 . rfl
 . split
   . rfl
   . split
     . rfl
     . split
       . rfl
       . split
         . rfl
         . simp only
           split <;> rfl
theorem En.DV (e : En) (k n : Int) : (e.dN k n).2.down = e.down := by
 unfold En.dN
 split
 . rfl
 . split
   . rfl
   . split
     . rfl
     . split
       . simp only
         rw [En.Kz]
         rfl
       . rfl
end Lk
theorem wL.c2 {w : World} {b : Nat} {e : Lk.En} {d : PD} (h : wL w b e d) : w.cell? ⟨b, 2, .none⟩ = some (.int .i64 (e.down : Int)) := h.rw.blk.cell 2
theorem uB {n : Nat} (h : n ≠ 0) : ((n : Int) != 0) = true := by simp; omega
theorem Qk (b : Nat) (n : Nat) (t : Value) (w : World) (hb : b < w.heap.size) (c2 : w.cell? ⟨b, 2, none⟩ = some (.int .i64 (n : Int))) (hn : n ≠ 0) :
 Calls Tryz.prog 33 #[.pointer (some ⟨b, 0, none⟩), t] w fun r w' => r = .returned (.int .i64 13) ∧ w' = w := by
 have HD := hide (bJ b n w hb c2)
 rw [uB hn] at HD
 clear hn
 go_enter Tryz.func33, Tryz.ntmps33
 go_wp2_with fail
 refine (uh HD).mono ?_
 rintro r w1 ⟨rfl, rfl⟩
 go_wp2_with fail
 go_ret
 exact ⟨rfl, rfl⟩
theorem Oq (b : Nat) (n : Nat) (w : World) (hb : b < w.heap.size) (c2 : w.cell? ⟨b, 2, none⟩ = some (.int .i64 (n : Int))) (hn : n ≠ 0) :
 Calls Tryz.prog 34 #[.pointer (some ⟨b, 0, none⟩)] w fun r w' => r = .returned (.int .i64 13) ∧ w' = w := by
 have HD := hide (bJ b n w hb c2)
 rw [uB hn] at HD
 clear hn
 go_enter Tryz.func34, Tryz.ntmps34
 go_wp2_with fail
 refine (uh HD).mono ?_
 rintro r w1 ⟨rfl, rfl⟩
 go_wp2_with fail
 go_ret
 exact ⟨rfl, rfl⟩
theorem H7 (b : Nat) (n : Nat) (k m : Int) (w : World) (hb : b < w.heap.size) (c2 : w.cell? ⟨b, 2, none⟩ = some (.int .i64 (n : Int))) (hn : n ≠ 0) :
 Calls Tryz.prog 31 #[.pointer (some ⟨b, 0, none⟩), .int .i64 k, .int .i64 m] w fun r w' => r = .returned (.int .i64 13) ∧ w' = w := by
 have HD := hide (bJ b n w hb c2)
 rw [uB hn] at HD
 clear hn
 go_enter Tryz.func31, Tryz.ntmps31
 go_wp2_with fail
 refine (uh HD).mono ?_
 rintro r w1 ⟨rfl, rfl⟩
 go_wp2_with fail
 go_ret
 exact ⟨rfl, rfl⟩
theorem NP (b : Nat) (n : Nat) (k m : Int) (w : World) (hb : b < w.heap.size) (c2 : w.cell? ⟨b, 2, none⟩ = some (.int .i64 (n : Int))) (hn : n ≠ 0) :
 Calls Tryz.prog 69 #[.pointer (some ⟨b, 0, none⟩), .int .i64 k, .int .i64 m] w fun r w' => r = .returned (.int .i64 13) ∧ w' = w := by
 have HD := hide (bJ b n w hb c2)
 rw [uB hn] at HD
 clear hn
 go_enter Tryz.func69, Tryz.ntmps69
 go_wp2_with fail
 refine (uh HD).mono ?_
 rintro r w1 ⟨rfl, rfl⟩
 go_wp2_with fail
 go_ret
 exact ⟨rfl, rfl⟩
theorem KC (b : Nat) (n : Nat) (lv body : Value) (w : World) (hb : b < w.heap.size) (c2 : w.cell? ⟨b, 2, none⟩ = some (.int .i64 (n : Int))) (hn : n ≠ 0) :
 Calls Tryz.prog 19 #[.pointer (some ⟨b, 0, none⟩), lv, body] w fun r w' => r = .returned (.tuple #[.int .i64 0, .int .i64 13, .int .i64 0]) ∧ w' = w := by
 have HD := hide (bJ b n w hb c2)
 rw [uB hn] at HD
 clear hn
 go_enter Tryz.func19, Tryz.ntmps19
 go_wp2_with fail
 refine (uh HD).mono ?_
 rintro r w1 ⟨rfl, rfl⟩
 go_wp2_with fail
 go_ret3
 exact ⟨rfl, rfl⟩
theorem Si (b : Nat) (e : Lk.En) (d : PD) (t : ByteArray) (w : World) (hL : kM w b e d) :
 Calls Tryz.prog 33 #[.pointer (some ⟨b, 0, none⟩), .string t] w fun r w' => r = .returned (.int .i64 ((e.iy t.data.toList).1 : Int)) ∧ iO w b d (e.iy t.data.toList).2 w' := by
 rcases hL with ⟨hL, hdn⟩ | hL
 . exact (MS b e d t w hL hdn).mono fun r w' h => ⟨h.1, h.2.toP ((Lk.En.H6 _ _).trans hdn)⟩
 . have : e.iy t.data.toList = (13, e) := by unfold Lk.En.iy; rw [if_pos hL.dn]
   rw [this]
   exact (Qk b e.down _ w hL.rw.lt hL.c2 hL.dn).mono fun r w' h => ⟨h.1, by rw [h.2]; exact iO.same (.inr hL)⟩
theorem Uz (b : Nat) (e : Lk.En) (d : PD) (w : World) (hL : kM w b e d) :
 Calls Tryz.prog 34 #[.pointer (some ⟨b, 0, none⟩)] w fun r w' => r = .returned (.int .i64 (e.iC.1 : Int)) ∧ iO w b d e.iC.2 w' := by
 rcases hL with ⟨hL, hdn⟩ | hL
 . exact (PI b e d w hL hdn).mono fun r w' h => ⟨h.1, h.2.toP ((Lk.En.KA _).trans hdn)⟩
 . have : e.iC = (13, e) := by unfold Lk.En.iC; rw [if_pos hL.dn]
   rw [this]
   exact (Oq b e.down w hL.rw.lt hL.c2 hL.dn).mono fun r w' h => ⟨h.1, by rw [h.2]; exact iO.same (.inr hL)⟩
theorem KE (b : Nat) (e : Lk.En) (d : PD) (k n : Int) (w : World) (hL : kM w b e d) (hk : I64 k) :
 Calls Tryz.prog 31 #[.pointer (some ⟨b, 0, none⟩), .int .i64 k, .int .i64 n] w fun r w' => r = .returned (.int .i64 ((e.aP k n).1 : Int)) ∧ iO w b d (e.aP k n).2 w' := by
 rcases hL with ⟨hL, hdn⟩ | hL
 . exact (CW b e d k n w hL hdn hk).mono fun r w' h => ⟨h.1, h.2.toP ((Lk.En.yT _ _ _).trans hdn)⟩
 . have : e.aP k n = (13, e) := by unfold Lk.En.aP; rw [if_pos hL.dn]
   rw [this]
   exact (H7 b e.down _ _ w hL.rw.lt hL.c2 hL.dn).mono fun r w' h => ⟨h.1, by rw [h.2]; exact iO.same (.inr hL)⟩
theorem Ql (b : Nat) (e : Lk.En) (d : PD) (k n : Int) (w : World) (hL : kM w b e d) (hk : I64 k) :
 Calls Tryz.prog 69 #[.pointer (some ⟨b, 0, none⟩), .int .i64 k, .int .i64 n] w fun r w' => r = .returned (.int .i64 ((e.dN k n).1 : Int)) ∧ iO w b d (e.dN k n).2 w' := by
 rcases hL with ⟨hL, hdn⟩ | hL
 . exact (JD b e d k n w hL hdn hk).mono fun r w' h => ⟨h.1, h.2.toP ((Lk.En.DV _ _ _).trans hdn)⟩
 . have : e.dN k n = (13, e) := by unfold Lk.En.dN; rw [if_pos hL.dn]
   rw [this]
   exact (NP b e.down _ _ w hL.rw.lt hL.c2 hL.dn).mono fun r w' h => ⟨h.1, by rw [h.2]; exact iO.same (.inr hL)⟩
theorem NQ (b B1 : Nat) (e : Lk.En) (d : PD) (l : List Lk.Hd) (lv : Value) (body : ByteArray) (w : World) (hL : kM w b e d) (hfx : Fx w) (own : w.ownsRow B1 112 2 lv l.length (aQ l)) :
 Calls Tryz.prog 19 #[.pointer (some ⟨b, 0, none⟩), lv, .string body] w fun r w' => r = .returned (.tuple #[.int .i64 ((e.aW l body.data.toList).1.1 : Int), .int .i64 ((e.aW l body.data.toList).1.2.1 : Int), .int .i64 ((e.aW l body.data.toList).1.2.2 : Int)]) ∧ iO w b d (e.aW l body.data.toList).2 w' := by
 rcases hL with ⟨hL, hdn⟩ | hL
 . exact (GR b B1 e d l lv body w hL hdn hfx own).mono fun r w' h => ⟨h.1, h.2.toP ((Lk.En.Be _ _ _).trans hdn)⟩
 . have : e.aW l body.data.toList = ((0, 13, 0), e) := by unfold Lk.En.aW; rw [if_pos hL.dn]
   rw [this]
   exact (KC b e.down _ _ w hL.rw.lt hL.c2 hL.dn).mono fun r w' h => ⟨h.1, by rw [h.2]; exact iO.same (.inr hL)⟩
open Go.RowKit
theorem uF (Ba Bb ga gb ca cb : Nat) (ea eb : List EvH) (w : World) (hm : ea.map Prod.fst = eb.map Prod.fst) (hl : ea.length <= 2 ^ 41) (hs : ∀ q ∈ ea, q.1.hs.length <= 1000) (ha : Said w Ba (.slice (some ⟨ga, 0, none⟩) ea.length ca) ea) (hb : RSaid w Bb (.slice (some ⟨gb, 0, none⟩) ea.length cb) eb) :
 Calls Tryz.prog 109 #[.slice (some ⟨ga, 0, none⟩) ea.length ca, .slice (some ⟨gb, 0, none⟩) ea.length cb] w fun r w' => r = .returned (.bool true) ∧ ∃ n, w' = w.drewN n := by
 have Ji := hide (⟨hm, hs, ha, hb⟩ : _ ∧ _ ∧ _ ∧ _)
 clear hm hs ha hb
 go_enter Tryz.func109, Tryz.ntmps109
 go_wp2_with fail
 go_loopw [5] (fun u wr => ∃ k : Nat, u = .int .i64 k ∧ k <= ea.length ∧ Hid (∃ n, wr = w.drewN n)) (fun u _ => ea.length - (intOf u).toNat)
 case atStart => exact ⟨0, rfl, by omega, hide ⟨0, rfl⟩⟩
 case round =>
  obtain ⟨k, rfl, hk, HN⟩ := hrel
  by_cases hlt : k < ea.length
  . have hlt' : (k : Int) < ea.length := by omega
    obtain ⟨hm, hs, ha, hb⟩ := uh Ji
    have hbw : Below w.heap.size w wr := by obtain ⟨n, rfl⟩ := uh HN; exact ⟨rfl, rfl, rfl, Nat.le_refl _, fun _ _ => rfl⟩
    have ha := ha.only (Only.of_below hbw (fun _ => False)) (fun _ _ x => x)
    have hb := hb.only (Only.of_below hbw (fun _ => False)) (fun _ _ x => x)
    obtain ⟨x, hx⟩ : ∃ x, ea[k]? = some x := ⟨_, List.getElem?_eq_getElem hlt⟩
    have hle : eb.length = ea.length := by have := congrArg List.length hm; simpa using this.symm
    obtain ⟨y, hy⟩ : ∃ y, eb[k]? = some y := ⟨_, List.getElem?_eq_getElem (by omega)⟩
    have hxy : x.1 = y.1 := by
     have := congrArg (fun l => l[k]?) hm
     simpa [hx, hy] using this
    have hx1 : x ∈ ea := List.mem_of_getElem? hx
    have hy1 : y ∈ eb := List.mem_of_getElem? hy
    obtain ⟨ga', ca', he1, _, Xm, hcap1, hc1, _⟩ := ed evV (fun _ => rfl) ha.row hx
    obtain ⟨gb', cb', he2, _, UX, hcap2, hc2, _⟩ := ed evV (fun _ => rfl) hb.row hy
    cases he1
    rw [hle] at he2
    injection he2 with j1 j2 j3
    injection j1 with j1
    injection j1 with j1
    subst j1 j3
    have a0 : wr.cell? ⟨ga, k * 5, none⟩ = some (.int .i64 (x.1.k : Int)) := hc1 0 (by omega)
    have a1 : wr.cell? ⟨ga, k * 5 + 1, none⟩ = some (.int .i64 (x.1.st : Int)) := hc1 1 (by omega)
    have a2 : wr.cell? ⟨ga, k * 5 + 2, none⟩ = some (.int .i64 (x.1.n : Int)) := hc1 2 (by omega)
    have a3 : wr.cell? ⟨ga, k * 5 + 3, none⟩ = some x.2 := hc1 3 (by omega)
    have a4 : wr.cell? ⟨ga, k * 5 + 4, none⟩ = some (.string (bs x.1.t)) := hc1 4 (by omega)
    have b0 : wr.cell? ⟨gb, k * 5, none⟩ = some (.int .i64 (y.1.k : Int)) := hc2 0 (by omega)
    have b1 : wr.cell? ⟨gb, k * 5 + 1, none⟩ = some (.int .i64 (y.1.st : Int)) := hc2 1 (by omega)
    have b2 : wr.cell? ⟨gb, k * 5 + 2, none⟩ = some (.int .i64 (y.1.n : Int)) := hc2 2 (by omega)
    have b3 : wr.cell? ⟨gb, k * 5 + 3, none⟩ = some y.2 := hc2 3 (by omega)
    have b4 : wr.cell? ⟨gb, k * 5 + 4, none⟩ = some (.string (bs y.1.t)) := hc2 4 (by omega)
    rw [<- hxy] at b0 b1 b2 b4
    have hyh := hb.hds y hy1
    rw [<- hxy] at hyh
    have hxh := ha.hds x hx1
    obtain ⟨xa, xc, hx2⟩ := aJ hxh
    obtain ⟨ya, yc, hy2⟩ := aJ hyh
    rw [hx2] at a3 hxh
    rw [hy2] at b3 hyh
    have HSH := hide (fun n => ig Ba Bb _ _ x.1.hs (wr.drewN n) (hs x hx1) (own_below hxh ⟨rfl, rfl, rfl, Nat.le_refl _, fun _ _ => rfl⟩) (own_below hyh ⟨rfl, rfl, rfl, Nat.le_refl _, fun _ _ => rfl⟩))
    have hcapb : ea.length <= cb := by omega
    clear hbw hm hs ha hb hx hy hle hxy hx1 hy1 hc1 hc2 hxh hyh hx2 hy2
    obtain ⟨⟨xk, xst, xn, xhs, xt⟩, xv⟩ := x
    simp only at a0 a1 a2 a4 b0 b1 b2 b4 HSH
    clear Xm hcap2
    go_wp2_with fail
    go_quiet ((go_at_call 64; exact Calls.quiet_of (uh HSH _)))
    go_wp2_with fail
    go_quiet (fail)
    go_wp2_with fail
    go_roundw
    case rel =>
     obtain ⟨n, rfl⟩ := uh HN
     exact ⟨k + 1, by simp, by omega, hide ⟨_, World.drewN_drewN _ _ _⟩⟩
    case measure => simp [intOf]; omega
  . have hlt' : ¬ (k : Int) < ea.length := by omega
    go_wp2_with fail
    go_ret
    exact ⟨rfl, uh HN⟩
theorem vk (Ba Bb : Nat) (va vb : Value) (ea eb : List EvH) (w : World) (hm : ea.map Prod.fst = eb.map Prod.fst) (hl : ea.length <= 2 ^ 41) (hs : ∀ q ∈ ea, q.1.hs.length <= 1000) (ha : Said w Ba va ea) (hb : RSaid w Bb vb eb) :
 Calls Tryz.prog 109 #[va, vb] w fun r w' => r = .returned (.bool true) ∧ ∃ n, w' = w.drewN n := by
 have hle : eb.length = ea.length := by have := congrArg List.length hm; simpa using this.symm
 by_cases h0 : ea.length = 0
 . obtain ⟨aa, ac, rfl⟩ := aJ ha.row
   obtain ⟨ba, bc, rfl⟩ := aJ hb.row
   rw [hle, h0]
   clear hm hl hs ha hb hle h0
   go_enter Tryz.func109, Tryz.ntmps109
   go_wp2_with fail
   refine wp_loop_rounds 1 ?_
   rw [rounds_succ]
   go_wp2_with fail
   go_ret
   exact ⟨rfl, 0, rfl⟩
 . obtain ⟨x, hx⟩ : ∃ x, ea[0]? = some x := ⟨_, List.getElem?_eq_getElem (by omega)⟩
   obtain ⟨y, hy⟩ : ∃ y, eb[0]? = some y := ⟨_, List.getElem?_eq_getElem (by omega)⟩
   obtain ⟨ga, ca, rfl, _⟩ := ed evV (fun _ => rfl) ha.row hx
   obtain ⟨gb, cb, rfl, _⟩ := ed evV (fun _ => rfl) hb.row hy
   rw [hle] at hb ⊢
   exact uF Ba Bb ga gb ca cb ea eb w hm hl hs ha hb
def upd {α : Type} (f : Nat -> α) (k : Nat) (x : α) : Nat -> α := fun i => if i = k then x else f i
theorem upd_same {α : Type} (f : Nat -> α) (k : Nat) (x : α) : upd f k x k = x := by simp [upd]
theorem bY {α : Type} (f : Nat -> α) {k i : Nat} (x : α) (h : i ≠ k) : upd f k x i = f i := by simp [upd, h]
theorem Tab.xq {w w' : World} {t u B : Nat} {L : List Lk.Hd} {v : Value} {cs : List Value} {T : TypeId} (h : Tab w t B L v) (hT : Turns u w w') (hI : Is w u T cs) (h1 : T ≠ 112) (hne : t ≠ u) : Tab w' t B L v :=
 ⟨h.blk.grown hT (by simpa using hne), iP h.own hI h1 hT, h.le, h.hB⟩
structure uJ (X : Nat -> Prop) (w : World) (t B : Nat) (L : List Lk.Hd) (v : Value) : Prop extends Tab w t B L v where
 sx : ∀ i, v.ownBlock = some i -> ¬ X i
 lx : ∀ i, X i -> i < w.heap.size
structure jC (X : Nat -> Prop) (w : World) (t B : Nat) (L : List Lk.Hd) (v : Value) : Prop extends RTab w t B L v where
 sx : ∀ i, v.ownBlock = some i -> ¬ X i
 lx : ∀ i, X i -> i < w.heap.size
section
variable {X : Nat -> Prop} {w w' : World} {t u B : Nat} {L : List Lk.Hd} {v : Value} {cs : List Value} {T : TypeId}
theorem uJ.below (h : uJ X w t B L v) (hb : Below w.heap.size w w') : uJ X w' t B L v := ⟨h.toTab.below hb, h.sx, fun i hi => Nat.lt_of_lt_of_le (h.lx i hi) hb.size⟩
theorem jC.below (h : jC X w t B L v) (hb : Below w.heap.size w w') : jC X w' t B L v := ⟨h.toRTab.below hb, h.sx, fun i hi => Nat.lt_of_lt_of_le (h.lx i hi) hb.size⟩
theorem uJ.xq (h : uJ X w t B L v) (hT : Turns u w w') (hI : Is w u T cs) (h1 : T ≠ 112) (hne : t ≠ u) : uJ X w' t B L v := ⟨h.toTab.xq hT hI h1 hne, h.sx, fun i hi => Nat.lt_of_lt_of_le (h.lx i hi) hT.size⟩
theorem jC.turns (h : jC X w t B L v) (hT : Turns u w w') (hI : Is w u T cs) (h1 : T ≠ 206) (hne : t ≠ u) : jC X w' t B L v := ⟨h.toRTab.turns hT hI h1 hne, h.sx, fun i hi => Nat.lt_of_lt_of_le (h.lx i hi) hT.size⟩
end
structure FB (b0 : Nat) (F : Nat -> Prop) (w w' : World) : Prop where
 bel : Below b0 w w'
 on : Only F w w'
section
variable {b0 : Nat} {F : Nat -> Prop} {w w1 w2 : World}
theorem FB.size (h : FB b0 F w w1) : w.heap.size <= w1.heap.size := h.on.size
theorem FB.of (h : Below w.heap.size w w1) (hb : b0 <= w.heap.size) : FB b0 F w w1 := ⟨h.mono hb, Only.of_below h F⟩
theorem FB.next (h : FB b0 F w w1) (k : Below w1.heap.size w1 w2) (hb : b0 <= w1.heap.size) : FB b0 F w w2 := ⟨h.bel.trans (k.mono hb), h.on.below k⟩
theorem FB.set (h : FB b0 F w w1) {g : Nat} (j : Nat) (v : Value) (hg : b0 <= g) (hF : F g) : FB b0 F w (w1.setCell ⟨g, j, none⟩ v) := ⟨h.bel.setCell hg v, h.on.set g j v (fun _ => hF)⟩
theorem FB.turn (h : FB b0 F w w1) {r : Nat} (k : Turns r w1 w2) (hr : b0 <= r) (hb : b0 <= w1.heap.size) (hF : F r) : FB b0 F w w2 := ⟨Turns.toBelow h.bel k hr hb, h.on.trans ((Only.dP k).mono (fun i hi => by have hi : i = r := hi; rw [hi]; exact hF)) (fun _ x _ => x)⟩
end
def TF (gT gU : Nat) (t u : Nat -> Nat) (i : Nat) : Prop := i = gT ∨ i = gU ∨ ∃ j, j < 2 ∧ (i = t j ∨ i = u j)
structure vG (X : Nat -> Prop) (b0 M gT gU cT cU : Nat) (vR vS vE vF pv : Value) (t u B : Nat -> Nat) (LT LU : Nat -> List Lk.Hd) (w : World) : Prop where
 made : Is w M 132 [vR, vS, .slice (some ⟨gT, 0, none⟩) 2 cT, .slice (some ⟨gU, 0, none⟩) 2 cU, vE, vF, pv]
 rowT : ∃ tl, Is w gT 135 (ptr (t 0) :: ptr (t 1) :: tl)
 zh : ∃ tl, Is w gU 138 (ptr (u 0) :: ptr (u 1) :: tl)
 tab : ∀ k, k < 2 -> ∃ v, uJ X w (t k) (B k) (LT k) v
 zi : ∀ k, k < 2 -> ∃ v, jC X w (u k) (B k) (LU k) v
 net : ∀ j k, j < 2 -> k < 2 -> j ≠ k -> t j ≠ t k
 neu : ∀ j k, j < 2 -> k < 2 -> j ≠ k -> u j ≠ u k
 hM : b0 <= M
 hT : b0 <= gT
 hU : b0 <= gU
 ht : ∀ k, k < 2 -> b0 <= t k
 hu : ∀ k, k < 2 -> b0 <= u k
 fx : Fx w
 h0 : 0 < b0
 cT2 : 2 <= cT
 cU2 : 2 <= cU
theorem fE {w : World} {g : Nat} {T : TypeId} {f : Nat -> Nat} (h : ∃ tl, Is w g T (ptr (f 0) :: ptr (f 1) :: tl)) {k : Nat} (hk : k < 2) : w.cell? ⟨g, k, none⟩ = some (ptr (f k)) := by
 obtain ⟨tl, hI⟩ := h
 rw [hI.cell]
 match k, hk with
 | 0, _ => rfl
 | 1, _ => rfl
theorem xu {w : World} {g : Nat} {T : TypeId} {f : Nat -> Nat} (h : ∃ tl, Is w g T (ptr (f 0) :: ptr (f 1) :: tl)) (k : Nat) : w.frozen? ⟨g, k, none⟩ = false := by
 obtain ⟨tl, hI⟩ := h
 exact hI.free k
theorem Bq {w : World} {g : Nat} {T : TypeId} {f : Nat -> Nat} (h : ∃ tl, Is w g T (ptr (f 0) :: ptr (f 1) :: tl)) {k : Nat} (hk : k < 2) (x : Nat) : ∃ tl, Is (w.setCell ⟨g, k, none⟩ (ptr x)) g T (ptr (upd f k x 0) :: ptr (upd f k x 1) :: tl) := by
 obtain ⟨tl, hI⟩ := h
 have := hI.set k (ptr x)
 match k, hk with
 | 0, _ => exact ⟨tl, this⟩
 | 1, _ => exact ⟨tl, this⟩
section
variable {X : Nat -> Prop} {b0 M gT gU cT cU : Nat} {vR vS vE vF pv : Value} {t u B : Nat -> Nat} {LT LU : Nat -> List Lk.Hd} {w w' : World}
theorem vG.below (h : vG X b0 M gT gU cT cU vR vS vE vF pv t u B LT LU w) (hb : Below w.heap.size w w') : vG X b0 M gT gU cT cU vR vS vE vF pv t u B LT LU w' := by
 obtain ⟨tT, a1⟩ := h.rowT
 obtain ⟨tU, a2⟩ := h.zh
 refine ⟨h.made.below hb h.made.lt, ⟨tT, a1.below hb a1.lt⟩, ⟨tU, a2.below hb a2.lt⟩, fun k hk => ?_, fun k hk => ?_, h.net, h.neu, h.hM, h.hT, h.hU, h.ht, h.hu, h.fx.below hb h.fx.1, h.h0, h.cT2, h.cU2⟩
 . obtain ⟨v, hv⟩ := h.tab k hk
   exact ⟨v, hv.below hb⟩
 . obtain ⟨v, hv⟩ := h.zi k hk
   exact ⟨v, hv.below hb⟩
theorem vG.TB (h : vG X b0 M gT gU cT cU vR vS vE vF pv t u B LT LU w) {k : Nat} (hk : k < 2) (hT : Turns (t k) w w') {L' : List Lk.Hd} (PX : ∃ v', uJ X w' (t k) (B k) L' v') : vG X b0 M gT gU cT cU vR vS vE vF pv t u B (upd LT k L') LU w' := by
 obtain ⟨tT, a1⟩ := h.rowT
 obtain ⟨tU, a2⟩ := h.zh
 obtain ⟨v0, hv0⟩ := h.tab k hk
 refine ⟨h.made.grown hT (by simpa using h.made.ne hv0.blk (nbq rfl)), ⟨tT, a1.grown hT (by simpa using a1.ne hv0.blk (nbq rfl))⟩, ⟨tU, a2.grown hT (by simpa using a2.ne hv0.blk (nbq rfl))⟩, fun j hj => ?_, fun j hj => ?_, h.net, h.neu, h.hM, h.hT, h.hU, h.ht, h.hu, h.fx.grown hT (by have := h.ht k hk; have := h.h0; simp; omega), h.h0, h.cT2, h.cU2⟩
 . by_cases e : j = k
   . subst e
     rw [upd_same]
     exact PX
   . rw [bY _ _ e]
     obtain ⟨v, hv⟩ := h.tab j hj
     exact ⟨v, hv.xq hT hv0.blk (nbq rfl) (h.net j k hj hk e)⟩
 . obtain ⟨v, hv⟩ := h.zi j hj
   exact ⟨v, hv.turns hT hv0.blk (nbq rfl) (hv.blk.ne hv0.blk (nbq rfl))⟩
theorem vG.TC (h : vG X b0 M gT gU cT cU vR vS vE vF pv t u B LT LU w) {k : Nat} (hk : k < 2) (hT : Turns (u k) w w') {L' : List Lk.Hd} (PX : ∃ v', jC X w' (u k) (B k) L' v') : vG X b0 M gT gU cT cU vR vS vE vF pv t u B LT (upd LU k L') w' := by
 obtain ⟨tT, a1⟩ := h.rowT
 obtain ⟨tU, a2⟩ := h.zh
 obtain ⟨v0, hv0⟩ := h.zi k hk
 refine ⟨h.made.grown hT (by simpa using h.made.ne hv0.blk (nbq rfl)), ⟨tT, a1.grown hT (by simpa using a1.ne hv0.blk (nbq rfl))⟩, ⟨tU, a2.grown hT (by simpa using a2.ne hv0.blk (nbq rfl))⟩, fun j hj => ?_, fun j hj => ?_, h.net, h.neu, h.hM, h.hT, h.hU, h.ht, h.hu, h.fx.grown hT (by have := h.hu k hk; have := h.h0; simp; omega), h.h0, h.cT2, h.cU2⟩
 . obtain ⟨v, hv⟩ := h.tab j hj
   exact ⟨v, hv.xq hT hv0.blk (nbq rfl) (hv.blk.ne hv0.blk (nbq rfl))⟩
 . by_cases e : j = k
   . subst e
     rw [upd_same]
     exact PX
   . rw [bY _ _ e]
     obtain ⟨v, hv⟩ := h.zi j hj
     exact ⟨v, hv.turns hT hv0.blk (nbq rfl) (h.neu j k hj hk e)⟩
theorem vG.put (h : vG X b0 M gT gU cT cU vR vS vE vF pv t u B LT LU w) {k : Nat} (hk : k < 2) {t' u' A : Nat} {v v' : Value} (hT : uJ X w t' A [] v) (hU : jC X w u' A [] v') (ht : b0 <= t') (hu : b0 <= u') (hnt : ∀ j, j < 2 -> t j ≠ t') (hnu : ∀ j, j < 2 -> u j ≠ u') :
 vG X b0 M gT gU cT cU vR vS vE vF pv (upd t k t') (upd u k u') (upd B k A) (upd LT k []) (upd LU k []) ((w.setCell ⟨gT, k, none⟩ (ptr t')).setCell ⟨gU, k, none⟩ (ptr u')) := by
 have r1 := h.rowT
 have r2 := h.zh
 obtain ⟨tT, a1⟩ := r1
 obtain ⟨tU, a2⟩ := r2
 have h1 : Turns gT w (w.setCell ⟨gT, k, none⟩ (ptr t')) := (Turns.refl _ _).set k _
 have hgg : gT ≠ gU := a1.ne a2 (nbq rfl)
 have a2' := a2.other ⟨gT, k, none⟩ (ptr t') (Ne.symm hgg)
 have h2 : Turns gU (w.setCell ⟨gT, k, none⟩ (ptr t')) ((w.setCell ⟨gT, k, none⟩ (ptr t')).setCell ⟨gU, k, none⟩ (ptr u')) := (Turns.refl _ _).set k _
 have Sz : ∀ {s C : Nat} {L : List Lk.Hd} {x : Value}, uJ X w s C L x -> uJ X ((w.setCell ⟨gT, k, none⟩ (ptr t')).setCell ⟨gU, k, none⟩ (ptr u')) s C L x := fun hs =>
  (hs.xq h1 a1 (nbq rfl) (hs.blk.ne a1 (nbq rfl))).xq h2 a2' (nbq rfl) (hs.blk.ne a2 (nbq rfl))
 have SA : ∀ {s C : Nat} {L : List Lk.Hd} {x : Value}, jC X w s C L x -> jC X ((w.setCell ⟨gT, k, none⟩ (ptr t')).setCell ⟨gU, k, none⟩ (ptr u')) s C L x := fun hs =>
  (hs.turns h1 a1 (nbq rfl) (hs.blk.ne a1 (nbq rfl))).turns h2 a2' (nbq rfl) (hs.blk.ne a2 (nbq rfl))
 obtain ⟨tT', b1⟩ := Bq ⟨tT, a1⟩ hk t'
 refine ⟨(h.made.other _ _ (h.made.ne a1 (nbq rfl))).other _ _ (h.made.ne a2 (nbq rfl)), ⟨tT', b1.other _ _ hgg⟩, Bq ⟨tU, a2'⟩ hk u', fun j hj => ?_, fun j hj => ?_, fun i j hi hj e => ?_, fun i j hi hj e => ?_, h.hM, h.hT, h.hU, fun j hj => ?_, fun j hj => ?_,
  (h.fx.grown h1 (by have := h.hT; have := h.h0; simp; omega)).grown h2 (by have := h.hU; have := h.h0; simp; omega), h.h0, h.cT2, h.cU2⟩
 . by_cases e : j = k
   . subst e
     simp only [upd_same]
     exact ⟨_, Sz hT⟩
   . simp only [bY _ _ e]
     obtain ⟨x, hx⟩ := h.tab j hj
     exact ⟨x, Sz hx⟩
 . by_cases e : j = k
   . subst e
     simp only [upd_same]
     exact ⟨_, SA hU⟩
   . simp only [bY _ _ e]
     obtain ⟨x, hx⟩ := h.zi j hj
     exact ⟨x, SA hx⟩
 . by_cases e1 : i = k
   . subst e1
     rw [upd_same, bY _ _ (Ne.symm e)]
     exact (hnt j hj).symm
   . by_cases e2 : j = k
     . subst e2
       rw [upd_same, bY _ _ e1]
       exact hnt i hi
     . rw [bY _ _ e1, bY _ _ e2]
       exact h.net i j hi hj e
 . by_cases e1 : i = k
   . subst e1
     rw [upd_same, bY _ _ (Ne.symm e)]
     exact (hnu j hj).symm
   . by_cases e2 : j = k
     . subst e2
       rw [upd_same, bY _ _ e1]
       exact hnu i hi
     . rw [bY _ _ e1, bY _ _ e2]
       exact h.neu i j hi hj e
 . by_cases e : j = k
   . subst e; rw [upd_same]; exact ht
   . rw [bY _ _ e]; exact h.ht j hj
 . by_cases e : j = k
   . subst e; rw [upd_same]; exact hu
   . rw [bY _ _ e]; exact h.hu j hj
end
end Go.Proofs.YtbkpdapagfjmmaaGreatDoor
