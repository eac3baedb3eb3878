import Derived.Test.YtbkpdapagfjmmaaGreatDoorA42
import Derived.Test.YtbkpdapagfjmmaaGreatDoorA44
set_option linter.unusedVariables false
set_option maxRecDepth 100000
set_option maxHeartbeats 16000000
namespace Go.Proofs.YtbkpdapagfjmmaaGreatDoor
open Go.RowKit
def oJ (bd win : Nat) (ob : Nat -> Nat) (d : Nat -> PD) (p : Nat -> RP) (q : Nat) (w : World) : Prop := match q % 6 with
 | 0 => Is w (ob q) 85 [.string ⟨#[]⟩, .int .i64 0, .int .i64 0]
 | 1 => Is w (ob q) 54 [.string ⟨#[]⟩, .int .i64 0]
 | 2 => Tab w (ob q) bd [] gQ
 | 3 => RTab w (ob q) bd [] gQ
 | 4 => kM w (ob q) (Lk.En.new (q / 6) win) (d q)
 | _ => aT True w (ob q) (Lk.En.new (q / 6) win) (p q)
def mg (ob : Nat -> Nat) (d : Nat -> PD) (p : Nat -> RP) (q i : Nat) : Prop := match q % 6 with
 | 0 => i = ob q
 | 1 => i = ob q
 | 2 => i = ob q
 | 3 => i = ob q
 | 4 => foot (ob q) (d q) i
 | _ => aI (ob q) (p q) i
theorem QB {bd win : Nat} {ob : Nat -> Nat} {d : Nat -> PD} {p : Nat -> RP} {q : Nat} {A : Nat -> Prop} {u u' : World} (h : oJ bd win ob d p q u) (hO : Only A u u') (hn : ∀ i, mg ob d p q i -> ¬ A i) : oJ bd win ob d p q u' := by
 unfold oJ mg at *
 split at h
 . rename_i e; simp only [e] at hn; exact h.only hO (hn _ rfl)
 . rename_i e; simp only [e] at hn; exact h.only hO (hn _ rfl)
 . rename_i e; simp only [e] at hn; exact ⟨h.blk.only hO (hn _ rfl), World.ownsRow_nil _ _ _ _, h.le, h.hB⟩
 . rename_i e; simp only [e] at hn; exact ⟨h.blk.only hO (hn _ rfl), World.ownsRow_nil _ _ _ _, h.le, h.hB⟩
 . rename_i e; simp only [e] at hn; exact h.only hO hn
 . rename_i e0 e1 e2 e3 e4
   have f0 : q % 6 ≠ 0 := e0
   have f1 : q % 6 ≠ 1 := e1
   have f2 : q % 6 ≠ 2 := e2
   have f3 : q % 6 ≠ 3 := e3
   have f4 : q % 6 ≠ 4 := e4
   have e : q % 6 = 5 := by omega
   simp only [e] at hn
   exact h.only hO hn
theorem Mk.QT {b M gp m bd win : Nat} {vs : Nat -> Value} {ls : Nat -> List Nat} {ob : Nat -> Nat} {d : Nat -> PD} {p : Nat -> RP} {w w1 : World} (h : Mk b M gp vs ls m (oJ bd win ob d p) (mg ob d p) w) (hb : Below w.heap.size w w1) (x : Nat) (d' : PD) (p' : RP) (h1 : oJ bd win (Lk.up2 ob m x) (Lk.up2 d m d') (Lk.up2 p m p') m w1) (h2 : ∀ i, mg (Lk.up2 ob m x) (Lk.up2 d m d') (Lk.up2 p m p') m i -> w.heap.size <= i ∧ i < w1.heap.size) :
 Mk b M gp vs ls (m + 1) (oJ bd win (Lk.up2 ob m x) (Lk.up2 d m d') (Lk.up2 p m p')) (mg (Lk.up2 ob m x) (Lk.up2 d m d') (Lk.up2 p m p')) w1 := by
 refine h.add hb (fun q hq => ?_) (fun q hq => ?_) h1 h2 (fun A u u' hp hO hn => QB hp hO hn)
 . funext u; unfold oJ; rw [Lk.ae _ _ (show q ≠ m by omega), Lk.ae _ _ (show q ≠ m by omega), Lk.ae _ _ (show q ≠ m by omega)]
 . funext u; unfold mg; rw [Lk.ae _ _ (show q ≠ m by omega), Lk.ae _ _ (show q ≠ m by omega), Lk.ae _ _ (show q ≠ m by omega)]
section
variable {b M gp n bd win : Nat} {vs : Nat -> Value} {ls : Nat -> List Nat} {ob : Nat -> Nat} {d : Nat -> PD} {p : Nat -> RP} {w w1 : World}
theorem Mk.add0 (h : Mk b M gp vs ls (6 * n) (oJ bd win ob d p) (mg ob d p) w) (hb : Below w.heap.size w w1) {x : Nat} (h1 : Is w1 x 85 [.string ⟨#[]⟩, .int .i64 0, .int .i64 0]) (h2 : w.heap.size <= x) : ∃ d p, Mk b M gp vs ls (6 * n + 1) (oJ bd win (Lk.up2 ob (6 * n) x) d p) (mg (Lk.up2 ob (6 * n) x) d p) w1 := by
 have e : 6 * n % 6 = 0 := by omega
 refine ⟨_, _, h.QT hb x (BD 0) (BF 0) ?_ (fun i hi => ?_)⟩
 . unfold oJ; simp only [e, Lk.ak]; exact h1
 . unfold mg at hi; simp only [e, Lk.ak] at hi; subst hi; exact ⟨h2, h1.lt⟩
theorem Mk.add1 (h : Mk b M gp vs ls (6 * n + 1) (oJ bd win ob d p) (mg ob d p) w) (hb : Below w.heap.size w w1) {x : Nat} (h1 : Is w1 x 54 [.string ⟨#[]⟩, .int .i64 0]) (h2 : w.heap.size <= x) : ∃ d p, Mk b M gp vs ls (6 * n + 2) (oJ bd win (Lk.up2 ob (6 * n + 1) x) d p) (mg (Lk.up2 ob (6 * n + 1) x) d p) w1 := by
 have e : (6 * n + 1) % 6 = 1 := by omega
 refine ⟨_, _, h.QT hb x (BD 0) (BF 0) ?_ (fun i hi => ?_)⟩
 . unfold oJ; simp only [e, Lk.ak]; exact h1
 . unfold mg at hi; simp only [e, Lk.ak] at hi; subst hi; exact ⟨h2, h1.lt⟩
theorem Mk.XA (h : Mk b M gp vs ls (6 * n + 2) (oJ bd win ob d p) (mg ob d p) w) (hb : Below w.heap.size w w1) {x : Nat} (h1 : Tab w1 x bd [] gQ) (h2 : w.heap.size <= x) : ∃ d p, Mk b M gp vs ls (6 * n + 3) (oJ bd win (Lk.up2 ob (6 * n + 2) x) d p) (mg (Lk.up2 ob (6 * n + 2) x) d p) w1 := by
 have e : (6 * n + 2) % 6 = 2 := by omega
 refine ⟨_, _, h.QT hb x (BD 0) (BF 0) ?_ (fun i hi => ?_)⟩
 . unfold oJ; simp only [e, Lk.ak]; exact h1
 . unfold mg at hi; simp only [e, Lk.ak] at hi; subst hi; exact ⟨h2, h1.blk.lt⟩
theorem Mk.XB (h : Mk b M gp vs ls (6 * n + 3) (oJ bd win ob d p) (mg ob d p) w) (hb : Below w.heap.size w w1) {x : Nat} (h1 : RTab w1 x bd [] gQ) (h2 : w.heap.size <= x) : ∃ d p, Mk b M gp vs ls (6 * n + 4) (oJ bd win (Lk.up2 ob (6 * n + 3) x) d p) (mg (Lk.up2 ob (6 * n + 3) x) d p) w1 := by
 have e : (6 * n + 3) % 6 = 3 := by omega
 refine ⟨_, _, h.QT hb x (BD 0) (BF 0) ?_ (fun i hi => ?_)⟩
 . unfold oJ; simp only [e, Lk.ak]; exact h1
 . unfold mg at hi; simp only [e, Lk.ak] at hi; subst hi; exact ⟨h2, h1.blk.lt⟩
theorem Mk.add4 (h : Mk b M gp vs ls (6 * n + 4) (oJ bd win ob d p) (mg ob d p) w) (hb : Below w.heap.size w w1) {x : Nat} {d' : PD} (h1 : kM w1 x (Lk.En.new n win) d') (h2 : ∀ i, foot x d' i -> w.heap.size <= i) : ∃ d p, Mk b M gp vs ls (6 * n + 5) (oJ bd win (Lk.up2 ob (6 * n + 4) x) d p) (mg (Lk.up2 ob (6 * n + 4) x) d p) w1 := by
 have e : (6 * n + 4) % 6 = 4 := by omega
 have e1 : (6 * n + 4) / 6 = n := by omega
 refine ⟨_, _, h.QT hb x d' (BF 0) ?_ (fun i hi => ?_)⟩
 . unfold oJ; simp only [e, Lk.ak, e1]; exact h1
 . unfold mg at hi; simp only [e, Lk.ak] at hi; exact ⟨h2 i hi, h1.lt i hi⟩
theorem Mk.add5 (h : Mk b M gp vs ls (6 * n + 5) (oJ bd win ob d p) (mg ob d p) w) (hb : Below w.heap.size w w1) {x : Nat} {p' : RP} (h1 : aT True w1 x (Lk.En.new n win) p') (h2 : ∀ i, aI x p' i -> w.heap.size <= i) : ∃ d p, Mk b M gp vs ls (6 * (n + 1)) (oJ bd win (Lk.up2 ob (6 * n + 5) x) d p) (mg (Lk.up2 ob (6 * n + 5) x) d p) w1 := by
 have e : (6 * n + 5) % 6 = 5 := by omega
 have e1 : (6 * n + 5) / 6 = n := by omega
 refine ⟨_, _, h.QT hb x (BD 0) p' ?_ (fun i hi => ?_)⟩
 . unfold oJ; simp only [e, Lk.ak, e1]; exact h1
 . unfold mg at hi; simp only [e, Lk.ak] at hi; exact ⟨h2 i hi, h1.lt hi⟩
end
theorem QC (w : World) (T : TypeId) (cs : List Value) (d : Obj) : Is ((w.alloc (.cells cs.toArray T)).alloc d).drew w.heap.size T cs := by
 have h := (Is.new w T cs).alloc d
 exact h.below ⟨rfl, rfl, rfl, Nat.le_refl _, fun _ _ => rfl⟩ h.lt
def SC (b M gp bd win n : Nat) (w : World) : Prop := ∃ vs ls ob d p, Mk b M gp vs ls (6 * n) (oJ bd win ob d p) (mg ob d p) w ∧ ∀ q, q < 6 -> ls q = (List.range n).map (fun k => ob (6 * k + q))
theorem SE {ob ob' : Nat -> Nat} {n q x : Nat} {l : List Nat} (h : l = (List.range n).map (fun k => ob (6 * k + q))) (hq : q < 6) (h1 : ∀ i, i < 6 * n -> ob' i = ob i) (h2 : ob' (6 * n + q) = x) : l ++ [x] = (List.range (n + 1)).map (fun k => ob' (6 * k + q)) := by
 rw [h, List.range_succ, List.map_append]
 congr 1
 . refine List.map_congr_left (fun k hk => ?_)
   have := List.mem_range.1 hk
   rw [h1 _ (by omega)]
 . simp only [List.map_cons, List.map_nil, h2]
theorem SG (bd win : Nat) (hbd : bd <= 200) (hw1 : 1 <= win) (hw2 : win <= 200) (w : World) (h0w : 0 < w.heap.size) :
 Calls Tryz.prog 26 #[.int .i64 bd, .int .i64 win, .int .i64 16] w fun e w' =>
  e = .returned (.tuple #[ptr (w.heap.size + 1), .bool true]) ∧ SC w.heap.size (w.heap.size + 1) w.heap.size bd win 2 w' ∧ Below w.heap.size w w' := by
 obtain ⟨i0, hi0, hz0, hz1, hz2⟩ := info_parts (KN 0 (by omega))
 go_enter Tryz.func26, Tryz.ntmps26
 go_wp2_with fail
 go_loopw [9] (fun k wr => ∃ (n : Nat), n <= 2 ∧ k = .int .i64 n ∧ Hid (SC w.heap.size (w.heap.size + 1) w.heap.size bd win n wr ∧ Below w.heap.size w wr)) (fun k _ => 2 - (intOf k).toNat)
 case atStart =>
  refine ⟨0, by omega, rfl, ⟨fun _ => gQ, fun _ => [], fun _ => 0, fun _ => BD 0, fun _ => BF 0, ⟨?_, ?_, fun q hq => World.ownsRow_nil _ _ _ _, fun q hq => by omega, fun q hq => by omega, fun q r hq => by omega, fun q hq => by omega, fun q hq => by omega, by omega, by omega⟩, fun q hq => rfl⟩, by ((repeat' (first | exact Below.refl _ _ | assumption | apply Below.drew | apply Below.alloc | apply Below.setCell)) <;> (simp <;> omega))⟩
  . have := Is.new (w.alloc (.cells #[.string ⟨#[]⟩, .string ⟨#[]⟩] 9)) 132 [gQ, gQ, gQ, gQ, gQ, gQ, .slice (some ⟨w.heap.size, 0, none⟩) 2 2]
    simpa using this
  . have := (Is.new w 9 [.string ⟨#[]⟩, .string ⟨#[]⟩]).alloc (.cells #[gQ, gQ, gQ, gQ, gQ, gQ, .slice (some ⟨w.heap.size, 0, none⟩) 2 2] 132)
    simpa using this
 case round =>
  obtain ⟨n, hn, rfl, HR⟩ := hrel
  by_cases hlt : n < 2
  . have hlt' : (n : Int) < 2 := by omega
    obtain ⟨⟨vs, ls, ob, d, p, hM, hl4⟩, hbel⟩ := uh HR
    have hll : ∀ q, q < 6 -> (ls q).length = n := fun q hq => by rw [hl4 q hq]; simp
    have hl5 : True := trivial
    have m0 := hM.c 0 (by omega)
    have hMl := hM.made.lt
    have VH : w.heap.size < wr.heap.size := by omega
    obtain ⟨va, vc, hv0⟩ := aJ (hM.rows 0 (by omega))
    have hl0 := hll 0 (by omega)
    rw [hv0, hl0] at m0
    have hR0 : wr.ownsRow w.heap.size 133 1 (.slice va n vc) n ((ls 0).map ptr) := by have := hM.rows 0 (by omega); rw [hv0, hl0] at this; exact this
    have hsz := hbel.size
    have HQ : Hid (∀ Wx w1 g1 cap1, Below wr.heap.size wr Wx -> Is Wx wr.heap.size 85 [.string ⟨#[]⟩, .int .i64 0, .int .i64 0] -> Wx.grownBy w1 (Value.slice va n vc).ownBlock -> w1.ownsRow w.heap.size 133 1 (.slice (some ⟨g1, 0, none⟩) (n + 1) cap1) (n + 1) ((ls 0).map ptr ++ [ptr wr.heap.size]) -> ((Value.slice va n vc).ownBlock = some g1 ∨ Wx.heap.size <= g1) -> (w1.cell? ⟨w.heap.size + 1, 0, none⟩ = some (.slice va n vc) ∧ w1.frozen? ⟨w.heap.size + 1, 0, none⟩ = false ∧ w.heap.size + 1 < w1.heap.size) ∧ ∀ w7, w7 = w1.setCell ⟨w.heap.size + 1, 0, none⟩ (.slice (some ⟨g1, 0, none⟩) (n + 1) cap1) -> ∃ g1 cap1 d1 p1, Hid (Mk w.heap.size (w.heap.size + 1) w.heap.size (Lk.up2 vs 0 (.slice (some ⟨g1, 0, none⟩) (n + 1) cap1)) (Lk.up2 ls 0 (ls 0 ++ [wr.heap.size])) (6 * n + 1) (oJ bd win (Lk.up2 ob (6 * n) wr.heap.size) d1 p1) (mg (Lk.up2 ob (6 * n) wr.heap.size) d1 p1) w7 ∧ Below w.heap.size w w7)) := by
     intro Wx w1 g1 cap1 k1 krd k2 k3 k4
     obtain ⟨d1, p1, hMa⟩ := hM.add0 k1 krd (Nat.le_refl _)
     rw [hl0] at hv0
     rw [<- hv0] at k2 k4
     have hO : Only (fun i => (vs 0).ownBlock = some i) wr w1 := (Only.of_below k1 _).trans ((Only.gV k2).mono (fun i hi => hi.symm)) (fun _ x _ => x)
     have hM1 := hM.made.only hO (fun e => own_ne (hM.rows 0 (by omega)) hM.made (oH 0 (by omega)).symm e.symm)
     have hc0 : w1.cell? ⟨w.heap.size + 1, 0, none⟩ = some (vs 0) := hM1.cell 0
     rw [hv0] at hc0
     have hOx : Only (fun i => (vs 0).ownBlock = some i) Wx w1 := (Only.gV k2).mono (fun i hi => hi.symm)
     refine ⟨⟨hc0, hM1.free 0, hM1.lt⟩, fun w7 hw7 => ⟨g1, cap1, d1, p1, ?_⟩⟩
     subst hw7
     refine ⟨hMa.push (q := 0) (by omega) hOx (by rw [hl0]; exact k3) (fun i hi => ?_), hbel.trans ((hO.toBelow (fun i hi _ => ((hM.rows 0 (by omega)).lt i hi).1) hsz).setCell (by simp) _)⟩
     have hi : some g1 = some i := hi
     injection hi with hi
     subst hi
     exact k4
    have HRW : Hid (∀ Wx, Below wr.heap.size wr Wx -> Wx.ownsRow w.heap.size 133 1 (.slice va n vc) n ((ls 0).map ptr)) := fun Wx k1 => own_below hR0 k1
    have VI := hide (⟨hll, hl4, hl5⟩ : _ ∧ _ ∧ _)
    have hlp : ((ls 0).map ptr).length = n := by rw [List.length_map, hl0]
    clear hM hR0 hv0 hll hl4 hl5 HR hbel hl0
    go_wp2_with fail
    go_cut [] (fun wc => ∃ g1 cap1 d1 p1, Hid (Mk w.heap.size (w.heap.size + 1) w.heap.size (Lk.up2 vs 0 (.slice (some ⟨g1, 0, none⟩) (n + 1) cap1)) (Lk.up2 ls 0 (ls 0 ++ [wr.heap.size])) (6 * n + 1) (oJ bd win (Lk.up2 ob (6 * n) wr.heap.size) d1 p1) (mg (Lk.up2 ob (6 * n) wr.heap.size) d1 p1) wc ∧ Below w.heap.size w wc))
    case first =>
     go_region_law (first
      | (refine step_append_lies _ rfl _ _ 125 rfl w.heap.size 133 i0 (.pointer none) 1 8 Tryz.underlying125 hi0 hz0 hz1 hz2 rfl (Nat.succ_pos 0) (.slice va n vc) n ((ls 0).map ptr) rfl (uh HRW _ ?_) ⟨wr.heap.size + 1, 0, none⟩ 1 1 [ptr wr.heap.size] rfl rfl ?_ ?_ ?_ ?_ ?_ ?_ (wr.heap.size + 1 + 1) ?_ ?_
         exact xh wr _ _
         (refine vM _ _ _ _ ?_; simp)
         simp [Value.oneCell', ptr]
         omega
         (unfold maxLen; omega)
         omega
         (simp; omega)
         simp
         intro g1 cap1 w1 ho1 hg1 OJ hlt1
         obtain ⟨⟨z7, zf, zl⟩, hP7⟩ := uh HQ _ w1 g1 cap1 (xh wr _ _) (QC wr _ _ _) hg1 ho1 (by rcases OJ with h | h; exact .inl h; exact .inr (by rw [h]; simp))
         have HP7 := hide hP7
         clear ho1 hg1 OJ hP7)
      | (go_simp; go_at_call 51; refine (Ii _).mono ?_; rintro e w' ⟨rfl, rfl⟩))
     all_goals
      go_wp2_with fail
      go_meet
      exact uh HP7 _ rfl
    case rest =>
     obtain ⟨g1, cap1, dA, pA, HM1⟩ := hcut
     obtain ⟨hM1, hb1⟩ := uh HM1
     obtain ⟨hll, hl4, hl5⟩ := uh VI
     obtain ⟨vs1, UG⟩ : ∃ f, f = Lk.up2 vs 0 (.slice (some ⟨g1, 0, none⟩) (n + 1) cap1) := ⟨_, rfl⟩
     obtain ⟨ls1, TE⟩ : ∃ f, f = Lk.up2 ls 0 (ls 0 ++ [wr.heap.size]) := ⟨_, rfl⟩
     have hn1 : ∀ q, q < 6 -> q ≠ 0 -> ls1 q = ls q := fun q hq h => by rw [TE, Lk.ae _ _ h]
     have hk0 : ls1 0 = ls 0 ++ [wr.heap.size] := by rw [TE, Lk.ak]
     have hw0 : vs1 0 = .slice (some ⟨g1, 0, none⟩) (n + 1) cap1 := by rw [UG, Lk.ak]
     rw [<- UG, <- TE] at hM1
     clear UG TE HM1 VI
     have KW : ∀ q, q < 6 -> (ls q).length <= 5 := fun q hq => by have := hll q hq; omega
     have hbR := (Below.refl wc.heap.size wc).alloc (Nat.le_refl _) (.cells #[.string ⟨#[]⟩, .int .i64 0] 54)
     have VJ : Below w.heap.size w (wc.alloc (.cells #[.string ⟨#[]⟩, .int .i64 0] 54)) := hb1.alloc hb1.size _
     have m1 := hM1.c 1 (by omega)
     have hMl := hM1.made.lt
     have VH : w.heap.size < wc.heap.size := by omega
     obtain ⟨dB, pB, VK⟩ := hM1.add1 hbR (Is.new wc 54 [.string ⟨#[]⟩, .int .i64 0]) (Nat.le_refl _)
     obtain ⟨a3, c3, w3, hr3, ⟨z3, zf3, zl3⟩, hM3, PM⟩ := VK.app (q := 1) (by omega) wc.heap.size (by rw [hn1 1 (by omega) (by omega)]; exact KW 1 (by omega)) 126 126 Tryz.underlying126
     rw [World.size_alloc] at hr3
     have hb3 := PM w VJ
     have HA3 : Hid ((Builtin.append_ #[126, 126] 126 #[vs1 1, .slice (some ⟨wc.heap.size + 1, 0, none⟩) 1 1]).run Tryz.prog ((wc.alloc (.cells #[.string ⟨#[]⟩, .int .i64 0] 54)).alloc (.cells #[ptr wc.heap.size] 52)) = .ok (.slice (some a3) ((ls1 1).length + 1) c3) w3) := hr3
     have hR3 := hM3.rows 0 (by omega)
     rw [Lk.ae _ _ (show 0 ≠ 1 by omega), Lk.ae _ _ (show 0 ≠ 1 by omega), hw0, hk0] at hR3
     have UH := hll 0 (by omega)
     rw [<- UH] at hR3
     obtain ⟨x1, x2, x3⟩ := N8 hR3
     rw [UH] at x1 x3
     have q0 := hM3.c 0 (by omega)
     rw [Lk.ae _ _ (show 0 ≠ 1 by omega), hw0] at q0
     unfold ptr at x1
     have HM3 := hide (⟨hM3, hb3⟩ : _ ∧ _)
     have HLL := hide (⟨hll, hl4, hl5, hn1, hk0, KW⟩ : _ ∧ _ ∧ _ ∧ _ ∧ _ ∧ _)
     have VL := x2
     simp only [World.size_setCell] at VL
     generalize hV1 : vs1 1 = V1 at *
     clear hM1 VK hM3 hb1 hb3 PM hR3 hbR VJ hr3 hll hl4 hl5 hn1 hk0 KW UH hV1
     go_wp2_with (at_builtin; refine Lib.wpList_append_run _ rfl _ _ _ _ rfl _ _ rfl rfl _ _ (uh HA3) ?_)
     refine (tV bd hbd _).mono ?_
     rintro e w5 ⟨t', rfl, ht', hT5, hb5⟩
     obtain ⟨hM3, hb3⟩ := uh HM3
     obtain ⟨dC, pC, hM5⟩ := hM3.XA hb5 hT5 ht'
     have HM5 := hide (⟨hM5, hb3.trans (hb5.mono hb3.size)⟩ : _ ∧ _)
     clear hM5 hM3 hb3 HM3 HA3 hT5 hb5 ht' q0 x1 x2 x3 VL z3 zf3 zl3 m1 hMl VH hw0
     go_wp2_with fail
     refine (qC bd hbd _).mono ?_
     rintro e w6 ⟨u', rfl, hu', hU6, hb6⟩
     obtain ⟨hM5, hb5⟩ := uh HM5
     obtain ⟨dD, pD, hM6⟩ := hM5.XB hb6 hU6 hu'
     have VM := hb5.trans (hb6.mono hb5.size)
     clear hM5 hb5 HM5 hU6 hb6 hu'
     obtain ⟨hll, hl4, hl5, hn1, hk0, KW⟩ := uh HLL
     obtain ⟨vs6, VN⟩ : ∃ f, f = Lk.up2 vs1 1 (.slice (some a3) ((ls1 1).length + 1) c3) := ⟨_, rfl⟩
     obtain ⟨ls6, SH⟩ : ∃ f, f = Lk.up2 ls1 1 (ls1 1 ++ [wc.heap.size]) := ⟨_, rfl⟩
     rw [<- VN, <- SH] at hM6
     have hn6 : ∀ q, q < 6 -> 2 <= q -> ls6 q = ls q := fun q hq h => by rw [SH, Lk.ae _ _ (by omega), hn1 q hq (by omega)]
     have QU : ls6 0 = ls 0 ++ [wr.heap.size] := by rw [SH, Lk.ae _ _ (by omega), hk0]
     have QV : ls6 1 = ls 1 ++ [wc.heap.size] := by rw [SH, Lk.ak, hn1 1 (by omega) (by omega)]
     obtain ⟨a7, c7, w7, hr7, ⟨z7, zf7, zl7⟩, hM7, VO⟩ := hM6.app (q := 2) (by omega) t' (by rw [hn6 2 (by omega) (by omega)]; exact KW 2 (by omega)) 127 127 Tryz.underlying127
     obtain ⟨a9, c9, w9, hr9, ⟨z9, zf9, zl9⟩, hM9, VP⟩ := hM7.app (q := 3) (by omega) u' (by rw [Lk.ae _ _ (by omega), hn6 3 (by omega) (by omega)]; exact KW 3 (by omega)) 128 128 Tryz.underlying128
     have hb9 := VP w (VO w VM)
     have m2 := hM6.c 2 (by omega)
     have m3 := hM7.c 3 (by omega)
     rw [Lk.ae _ _ (show 3 ≠ 2 by omega)] at m3 z9
     rw [World.size_setCell] at hr9
     simp only [Lk.ae _ _ (show 3 ≠ 2 by omega)] at hr9 hM9 hb9
     have ml6 := hM6.made.lt
     have XC : w.heap.size < w6.heap.size := by omega
     have ml7 := hM7.made.lt
     have HA7 : Hid ((Builtin.append_ #[127, 127] 127 #[vs6 2, .slice (some ⟨w6.heap.size, 0, none⟩) 1 1]).run Tryz.prog (w6.alloc (.cells #[ptr t'] 135)) = .ok (.slice (some a7) ((ls6 2).length + 1) c7) w7) := hr7
     have HA9 : Hid ((Builtin.append_ #[128, 128] 128 #[vs6 3, .slice (some ⟨w7.heap.size, 0, none⟩) 1 1]).run Tryz.prog ((w7.setCell ⟨w.heap.size + 1, 2, none⟩ (.slice (some a7) ((ls6 2).length + 1) c7)).alloc (.cells #[ptr u'] 138)) = .ok (.slice (some a9) ((ls6 3).length + 1) c9) w9) := hr9
     have HM9 := hide (⟨hM9, hb9⟩ : _ ∧ _)
     have VQ := hide (⟨hn6, QU, QV⟩ : _ ∧ _ ∧ _)
     generalize vs6 2 = V2 at *
     generalize vs6 3 = V3 at *
     clear hM6 hM7 hM9 hb9 VM VO VP hr7 hr9 hll hl4 hl5 hn1 hk0 KW hn6 QU QV VN SH
     go_wp2_with (at_builtin; first | refine Lib.wpList_append_run _ rfl _ _ _ _ rfl _ _ rfl rfl _ _ (uh HA7) ?_ | refine Lib.wpList_append_run _ rfl _ _ _ _ rfl _ _ rfl rfl _ _ (uh HA9) ?_)
     refine (zg _ _).mono ?_
     rintro r w10 ⟨rfl, rfl⟩
     clear HA7 HA9 m2 m3 z7 zf7 zl7 z9 zf9 zl9 ml6 XC ml7
     go_wp2_with fail
     obtain ⟨hM9, hb9⟩ := uh HM9
     refine (OQ n win (by omega) hw1 hw2 _ (by have := hM9.made.lt; omega)).mono ?_
     rintro r w11 ⟨b1, d1', rfl, hPE, hft, QD⟩
     obtain ⟨dE, pE, SI⟩ := hM9.add4 QD hPE hft
     have VR := hide (⟨SI, hb9.trans (QD.mono hb9.size)⟩ : _ ∧ _)
     clear SI hM9 hb9 HM9 hPE hft QD
     go_wp2_with fail
     refine (Ky n win (by omega) hw1 hw2 _).mono ?_
     rintro r w12 ⟨b2, p2', rfl, hRE, Nz, QR⟩
     obtain ⟨SI, QD⟩ := uh VR
     obtain ⟨dG, pG, SK⟩ := SI.add5 QR hRE Nz
     have SL := QD.trans (QR.mono QD.size)
     clear SI QD VR hRE Nz QR
     obtain ⟨hll, hl4, hl5, _, _, KW⟩ := uh HLL
     obtain ⟨hn6, QU, QV⟩ := uh VQ
     obtain ⟨vsA, VS⟩ : ∃ f, f = Lk.up2 (Lk.up2 vs6 2 (.slice (some a7) ((ls6 2).length + 1) c7)) 3 (.slice (some a9) ((ls6 3).length + 1) c9) := ⟨_, rfl⟩
     obtain ⟨lsA, Iz⟩ : ∃ f, f = Lk.up2 (Lk.up2 ls6 2 (ls6 2 ++ [t'])) 3 (ls6 3 ++ [u']) := ⟨_, rfl⟩
     rw [<- VS, <- Iz] at SK
     have hA4 : lsA 4 = ls 4 := by rw [Iz, Lk.ae _ _ (by omega), Lk.ae _ _ (by omega), hn6 4 (by omega) (by omega)]
     have hA5 : lsA 5 = ls 5 := by rw [Iz, Lk.ae _ _ (by omega), Lk.ae _ _ (by omega), hn6 5 (by omega) (by omega)]
     have hAl : (lsA 0).length = n + 1 ∧ (lsA 1).length = n + 1 ∧ (lsA 2).length = n + 1 ∧ (lsA 3).length = n + 1 := by
      have e0 := hll 0 (by omega)
      have e1 := hll 1 (by omega)
      have e2 := hll 2 (by omega)
      have e3 := hll 3 (by omega)
      refine ⟨?_, ?_, ?_, ?_⟩
      . rw [Iz, Lk.ae _ _ (by omega), Lk.ae _ _ (by omega), QU]; simp [e0]
      . rw [Iz, Lk.ae _ _ (by omega), Lk.ae _ _ (by omega), QV]; simp [e1]
      . rw [Iz, Lk.ae _ _ (by omega), Lk.ak, hn6 2 (by omega) (by omega)]; simp [e2]
      . rw [Iz, Lk.ak, hn6 3 (by omega) (by omega)]; simp [e3]
     obtain ⟨a13, c13, w13, VT, ⟨z13, Ym, Yn⟩, TG, SN⟩ := SK.app (q := 4) (by omega) b1 (by rw [hA4]; exact KW 4 (by omega)) 129 129 Tryz.underlying129
     obtain ⟨a14, c14, w14, TI, ⟨z14, Yo, Yp⟩, UI, SS⟩ := TG.app (q := 5) (by omega) b2 (by rw [Lk.ae _ _ (by omega), hA5]; exact KW 5 (by omega)) 130 130 Tryz.underlying130
     have UJ := SS w (SN w SL)
     have m4 := SK.c 4 (by omega)
     have m5 := TG.c 5 (by omega)
     rw [Lk.ae _ _ (show 5 ≠ 4 by omega)] at m5 z14
     rw [World.size_setCell] at TI
     simp only [Lk.ae _ _ (show 5 ≠ 4 by omega)] at TI UI UJ
     have Yq := SK.made.lt
     have XD : w.heap.size < w12.heap.size := by omega
     have Yr := TG.made.lt
     have XE : Hid ((Builtin.append_ #[129, 129] 129 #[vsA 4, .slice (some ⟨w12.heap.size, 0, none⟩) 1 1]).run Tryz.prog (w12.alloc (.cells #[ptr b1] 34)) = .ok (.slice (some a13) ((lsA 4).length + 1) c13) w13) := VT
     have XF : Hid ((Builtin.append_ #[130, 130] 130 #[vsA 5, .slice (some ⟨w13.heap.size, 0, none⟩) 1 1]).run Tryz.prog ((w13.setCell ⟨w.heap.size + 1, 4, none⟩ (.slice (some a13) ((lsA 4).length + 1) c13)).alloc (.cells #[ptr b2] 141)) = .ok (.slice (some a14) ((lsA 5).length + 1) c14) w14) := TI
     have jD : Hid (SC w.heap.size (w.heap.size + 1) w.heap.size bd win (n + 1) (w14.setCell ⟨w.heap.size + 1, 5, none⟩ (.slice (some a14) ((lsA 5).length + 1) c14)) ∧ Below w.heap.size w (w14.setCell ⟨w.heap.size + 1, 5, none⟩ (.slice (some a14) ((lsA 5).length + 1) c14))) := by
      refine ⟨⟨_, _, _, _, _, UI, fun q hq => ?_⟩, UJ⟩
      have hlow : ∀ i, i < 6 * n -> Lk.up2 (Lk.up2 (Lk.up2 (Lk.up2 (Lk.up2 (Lk.up2 ob (6 * n) wr.heap.size) (6 * n + 1) wc.heap.size) (6 * n + 2) t') (6 * n + 3) u') (6 * n + 4) b1) (6 * n + 5) b2 i = ob i := fun i hi => by
       rw [Lk.ae _ _ (by omega), Lk.ae _ _ (by omega), Lk.ae _ _ (by omega), Lk.ae _ _ (by omega), Lk.ae _ _ (by omega), Lk.ae _ _ (by omega)]
      have hrow : ∀ q l x, q < 6 -> l = ls q -> Lk.up2 (Lk.up2 (Lk.up2 (Lk.up2 (Lk.up2 (Lk.up2 ob (6 * n) wr.heap.size) (6 * n + 1) wc.heap.size) (6 * n + 2) t') (6 * n + 3) u') (6 * n + 4) b1) (6 * n + 5) b2 (6 * n + q) = x -> l ++ [x] = (List.range (n + 1)).map (fun k => Lk.up2 (Lk.up2 (Lk.up2 (Lk.up2 (Lk.up2 (Lk.up2 ob (6 * n) wr.heap.size) (6 * n + 1) wc.heap.size) (6 * n + 2) t') (6 * n + 3) u') (6 * n + 4) b1) (6 * n + 5) b2 (6 * k + q)) := fun q l x hq hl hx => SE (hl.trans (hl4 q hq)) hq hlow hx
      refine six (fun q => Lk.up2 (Lk.up2 lsA 4 (lsA 4 ++ [b1])) 5 (lsA 5 ++ [b2]) q = (List.range (n + 1)).map (fun k => Lk.up2 (Lk.up2 (Lk.up2 (Lk.up2 (Lk.up2 (Lk.up2 ob (6 * n) wr.heap.size) (6 * n + 1) wc.heap.size) (6 * n + 2) t') (6 * n + 3) u') (6 * n + 4) b1) (6 * n + 5) b2 (6 * k + q))) ?_ ?_ ?_ ?_ ?_ ?_ q hq
      . rw [Lk.ae _ _ (by omega), Lk.ae _ _ (by omega), Iz, Lk.ae _ _ (by omega), Lk.ae _ _ (by omega), QU]
        refine hrow 0 _ _ (by omega) rfl ?_
        rw [Lk.ae _ _ (by omega), Lk.ae _ _ (by omega), Lk.ae _ _ (by omega), Lk.ae _ _ (by omega), Lk.ae _ _ (by omega)]
        exact Lk.ak _ _ _
      . rw [Lk.ae _ _ (by omega), Lk.ae _ _ (by omega), Iz, Lk.ae _ _ (by omega), Lk.ae _ _ (by omega), QV]
        refine hrow 1 _ _ (by omega) rfl ?_
        rw [Lk.ae _ _ (by omega), Lk.ae _ _ (by omega), Lk.ae _ _ (by omega), Lk.ae _ _ (by omega), Lk.ak]
      . rw [Lk.ae _ _ (by omega), Lk.ae _ _ (by omega), Iz, Lk.ae _ _ (by omega), Lk.ak, hn6 2 (by omega) (by omega)]
        refine hrow 2 _ _ (by omega) rfl ?_
        rw [Lk.ae _ _ (by omega), Lk.ae _ _ (by omega), Lk.ae _ _ (by omega), Lk.ak]
      . rw [Lk.ae _ _ (by omega), Lk.ae _ _ (by omega), Iz, Lk.ak, hn6 3 (by omega) (by omega)]
        refine hrow 3 _ _ (by omega) rfl ?_
        rw [Lk.ae _ _ (by omega), Lk.ae _ _ (by omega), Lk.ak]
      . rw [Lk.ae _ _ (by omega), Lk.ak, hA4]
        refine hrow 4 _ _ (by omega) rfl ?_
        rw [Lk.ae _ _ (by omega), Lk.ak]
      . rw [Lk.ak, hA5]
        exact hrow 5 _ _ (by omega) rfl (Lk.ak _ _ _)
     generalize vsA 4 = V4 at *
     generalize vsA 5 = V5 at *
     clear SK TG UI UJ SL SN SS VT TI hll hl4 hl5 KW hn6 QU QV VS Iz hA4 hA5 hAl HLL VQ
     go_wp2_with (at_builtin; first | refine Lib.wpList_append_run _ rfl _ _ _ _ rfl _ _ rfl rfl _ _ (uh XE) ?_ | refine Lib.wpList_append_run _ rfl _ _ _ _ rfl _ _ rfl rfl _ _ (uh XF) ?_)
     refine (zg _ _).mono ?_
     rintro r w15 ⟨rfl, rfl⟩
     go_wp2_with fail
     go_roundw
     case rel => exact ⟨n + 1, by omega, by go_num, jD⟩
     case measure => simp [intOf]; omega
  . have hlt' : ¬ (n : Int) < 2 := by omega
    obtain rfl : n = 2 := by omega
    go_wp2_with fail
    go_ret2
    exact ⟨rfl, uh HR⟩
structure AK where
 gR : Nat
 gS : Nat
 cR : Nat
 cS : Nat
 gT : Nat
 gU : Nat
 cT : Nat
 cU : Nat
structure AV where
 r : Nat -> Nat
 s : Nat -> Nat
 t : Nat -> Nat
 u : Nat -> Nat
 B : Nat -> Nat
 L : Nat -> List Lk.Hd
abbrev AK.rf (K : AK) (V : AV) : Nat -> Prop := RF K.gR K.gS V.r V.s
abbrev AK.tf (K : AK) (V : AV) : Nat -> Prop := TF K.gT K.gU V.t V.u
def Ip (G : EG) (K : AK) (X : Nat -> Prop) (V : AV) (w : World) : Prop := vG X G.b0 G.M K.gT K.gU K.cT K.cU (.slice (some ⟨K.gR, 0, none⟩) 2 K.cR) (.slice (some ⟨K.gS, 0, none⟩) 2 K.cS) (.slice (some ⟨G.gE, 0, none⟩) 2 G.cE) (.slice (some ⟨G.gF, 0, none⟩) 2 G.cF) (.slice (some ⟨G.gP, 0, none⟩) 2 G.cP) V.t V.u V.B V.L V.L w
structure AI (G : EG) (K : AK) (S : EV) (V : AV) (N : Nat) (w : World) : Prop where
 ei : EI G S N w
 gv : Qp G = [.slice (some ⟨K.gR, 0, none⟩) 2 K.cR, .slice (some ⟨K.gS, 0, none⟩) 2 K.cS, .slice (some ⟨K.gT, 0, none⟩) 2 K.cT, .slice (some ⟨K.gU, 0, none⟩) 2 K.cU, .slice (some ⟨G.gE, 0, none⟩) 2 G.cE, .slice (some ⟨G.gF, 0, none⟩) 2 G.cF, .slice (some ⟨G.gP, 0, none⟩) 2 G.cP]
 cap : 2 <= K.cR ∧ 2 <= K.cS
 rd : RDS K.gR K.gS V.r V.s w
 tb : Ip G K (mf G S) V w
 s1 : ∀ i, K.rf V i -> ¬ mf G S i
 s2 : ∀ i, K.tf V i -> ¬ mf G S i
 lo : ∀ i, K.rf V i -> G.b0 <= i
def Iq (G : EG) (K : AK) (N : Nat) (w : World) (e : Ending) (w' : World) : Prop := e = .returned (.bool true) ∧ (∃ S V, AI G K S V N w') ∧ Below G.b0 w w'
section
variable {G : EG} {K : AK} {S S' : EV} {V V' : AV} {N N' : Nat} {w w' : World} {X X' A : Nat -> Prop}
theorem Ip.tlt (h : Ip G K X V w) {i : Nat} (hi : K.tf V i) : i < w.heap.size := by
 rcases hi with rfl | rfl | ⟨j, hj, hi⟩
 . obtain ⟨_, hx⟩ := h.rowT
   exact hx.lt
 . obtain ⟨_, hx⟩ := h.zh
   exact hx.lt
 . obtain ⟨v, hv⟩ := h.tab j hj
   obtain ⟨x, hx⟩ := h.zi j hj
   rcases hi with rfl | rfl
   . exact hv.blk.lt
   . exact hx.blk.lt
theorem Ip.tlo (h : Ip G K X V w) {i : Nat} (hi : K.tf V i) : G.b0 <= i := by
 rcases hi with rfl | rfl | ⟨j, hj, hi⟩
 . exact h.hT
 . exact h.hU
 . rcases hi with rfl | rfl
   . exact h.ht j hj
   . exact h.hu j hj
theorem Ip.only (h : Ip G K X V w) (k : Only A w w') (hM : ¬ A G.M) (hA : ∀ i, K.tf V i -> ¬ A i) (hv : ∀ i T cs, Is w i T cs -> T = 112 ∨ T = 206 -> ¬ X i -> ¬ A i) (h0 : ¬ A 0) (hX : ∀ i, i < w.heap.size -> X' i -> X i) (hl : ∀ i, X' i -> i < w'.heap.size) : Ip G K X' V w' := by
 obtain ⟨a, ha⟩ := h.rowT
 obtain ⟨b, hb⟩ := h.zh
 refine ⟨h.made.only k hM, ⟨a, ha.only k (hA _ (.inl rfl))⟩, ⟨b, hb.only k (hA _ (.inr (.inl rfl)))⟩, fun j hj => ?_, fun j hj => ?_, h.net, h.neu, h.hM, h.hT, h.hU, h.ht, h.hu, h.fx.only k h0, h.h0, h.cT2, h.cU2⟩
 . obtain ⟨v, hv0⟩ := h.tab j hj
   refine ⟨v, ⟨hv0.blk.only k (hA _ (.inr (.inr ⟨j, hj, .inl rfl⟩))), ag hv0.own k (fun i hi => ?_), hv0.le, hv0.hB⟩, fun i hi hx => ?_, hl⟩
   . obtain ⟨cs, hc⟩ := iM hv0.own hi
     exact hv i _ cs hc (.inl rfl) (hv0.sx i hi)
   . exact hv0.sx i hi (hX i (hv0.own.lt i hi).2 hx)
 . obtain ⟨v, hv0⟩ := h.zi j hj
   refine ⟨v, ⟨hv0.blk.only k (hA _ (.inr (.inr ⟨j, hj, .inr rfl⟩))), ag hv0.own k (fun i hi => ?_), hv0.le, hv0.hB⟩, fun i hi hx => ?_, hl⟩
   . obtain ⟨cs, hc⟩ := iM hv0.own hi
     exact hv i _ cs hc (.inr rfl) (hv0.sx i hi)
   . exact hv0.sx i hi (hX i (hv0.own.lt i hi).2 hx)
theorem AI.rt (h : AI G K S V N w) {i : Nat} (hi : K.rf V i) : ¬ K.tf V i := by
 intro hx
 have hne := fun {T cs} (hI : Is w i T cs) h1 h2 h3 h4 => h.rd.apart hI h1 h2 h3 h4 hi
 rcases hx with rfl | rfl | ⟨j, hj, hx⟩
 . obtain ⟨_, hx⟩ := h.tb.rowT
   exact hne hx (nbq rfl) (nbq rfl) (nbq rfl) (nbq rfl)
 . obtain ⟨_, hx⟩ := h.tb.zh
   exact hne hx (nbq rfl) (nbq rfl) (nbq rfl) (nbq rfl)
 . obtain ⟨v, hv⟩ := h.tb.tab j hj
   obtain ⟨y, hy⟩ := h.tb.zi j hj
   rcases hx with rfl | rfl
   . exact hne hv.blk (nbq rfl) (nbq rfl) (nbq rfl) (nbq rfl)
   . exact hne hy.blk (nbq rfl) (nbq rfl) (nbq rfl) (nbq rfl)
theorem AI.UK (h : AI G K S V N w) : G.b0 <= w.heap.size := by
 have := h.ei.ep.lo G.M (.inl (.inl rfl))
 have := h.ei.ep.made.lt
 omega
theorem AI.later (h : AI G K S V N w) (hN : N <= N') : AI G K S V N' w := ⟨⟨h.ei.ep, h.ei.eq, h.ei.es.later hN⟩, h.gv, h.cap, h.rd, h.tb, h.s1, h.s2, h.lo⟩
theorem AI.below (h : AI G K S V N w) (k : Below w.heap.size w w') : AI G K S V N w' :=
 ⟨⟨h.ei.ep.below k, h.ei.eq, h.ei.es⟩, h.gv, h.cap, h.rd.below k, vG.below h.tb k, h.s1, h.s2, h.lo⟩
theorem AI.ends (h : AI G K S V N w) (hs : df G S w S' w') (hq : S'.f = S'.e) (hes : Lk.ES S'.e S'.pp N') : AI G K S' V N' w' := by
 have hnew : ∀ i, i < w.heap.size -> mf G S' i -> mf G S i := fun i hi hx => (hs.2.1 i hx).resolve_right (fun x => by omega)
 have h0 : ¬ mf G S 0 := fun hx => by have := h.ei.ep.lo 0 hx; have := h.ei.ep.h0; omega
 obtain ⟨a, ha⟩ := h.tb.rowT
 obtain ⟨b, hb⟩ := h.tb.zh
 refine ⟨⟨hs.1, hq, hes⟩, h.gv, h.cap, h.rd.only hs.2.2 h.s1, ?_, fun i hi hx => h.s1 i hi (hnew i (h.rd.lt hi) hx), fun i hi hx => h.s2 i hi (hnew i (Ip.tlt h.tb hi) hx), h.lo⟩
 have hT : Ip G K (mf G S') V w' := by
  refine ⟨?_, ⟨a, ha.only hs.2.2 (h.s2 _ (.inl rfl))⟩, ⟨b, hb.only hs.2.2 (h.s2 _ (.inr (.inl rfl)))⟩, fun j hj => ?_, fun j hj => ?_, h.tb.net, h.tb.neu, h.tb.hM, h.tb.hT, h.tb.hU, h.tb.ht, h.tb.hu, hs.1.fx, h.tb.h0, h.tb.cT2, h.tb.cU2⟩
  . have := hs.1.made
    rw [h.gv] at this
    exact this
  . obtain ⟨v, hv0⟩ := h.tb.tab j hj
    exact ⟨v, ⟨hv0.blk.only hs.2.2 (h.s2 _ (.inr (.inr ⟨j, hj, .inl rfl⟩))), ag hv0.own hs.2.2 hv0.sx, hv0.le, hv0.hB⟩, fun i hi hx => hv0.sx i hi (hnew i (hv0.own.lt i hi).2 hx), fun i hx => hs.1.at_ hx⟩
  . obtain ⟨v, hv0⟩ := h.tb.zi j hj
    exact ⟨v, ⟨hv0.blk.only hs.2.2 (h.s2 _ (.inr (.inr ⟨j, hj, .inr rfl⟩))), ag hv0.own hs.2.2 hv0.sx, hv0.le, hv0.hB⟩, fun i hi hx => hv0.sx i hi (hnew i (hv0.own.lt i hi).2 hx), fun i hx => hs.1.at_ hx⟩
 exact hT
theorem AI.reads (h : AI G K S V N w) {r' s' : Nat -> Nat} (hR : RDS K.gR K.gS r' s' w') (hg : ∀ i, RF K.gR K.gS r' s' i -> K.rf V i ∨ w.heap.size <= i) (hO : Only (K.rf V) w w') : AI G K S { V with r := r', s := s' } N w' := by
 have h0 : ¬ K.rf V 0 := fun hx => by have := h.lo 0 hx; have := h.ei.ep.h0; omega
 have hmf : ∀ i, mf G S i -> ¬ K.rf V i := fun i hi hx => h.s1 i hx hi
 refine ⟨⟨h.ei.ep.only hO hmf h0, h.ei.eq, h.ei.es⟩, h.gv, h.cap, hR, ?_, fun i hi hx => ?_, h.s2, fun i hi => ?_⟩
 . exact Ip.only (V := { V with r := r', s := s' }) (X := mf G S) (X' := mf G S) h.tb hO (hmf _ (.inl (.inl rfl))) (fun i hi hx => h.rt hx hi) (fun i T cs hI hT _ hx => by
    rcases hT with rfl | rfl
    . exact h.rd.apart hI (nbq rfl) (nbq rfl) (nbq rfl) (nbq rfl) hx
    . exact h.rd.apart hI (nbq rfl) (nbq rfl) (nbq rfl) (nbq rfl) hx) h0 (fun i _ x => x) (fun i hi => Nat.lt_of_lt_of_le (h.ei.ep.at_ hi) hO.size)
 . rcases hg i hi with x | x
   . exact h.s1 i x hx
   . have := h.ei.ep.at_ hx
     omega
 . rcases hg i hi with x | x
   . exact h.lo i x
   . have := h.UK
     omega
theorem AI.tables (h : AI G K S V N w) {t' u' B' : Nat -> Nat} {L' : Nat -> List Lk.Hd} (hR : Ip G K (mf G S) { V with t := t', u := u', B := B', L := L' } w') (hg : ∀ i, TF K.gT K.gU t' u' i -> K.tf V i ∨ w.heap.size <= i) (hO : Only (K.tf V) w w') : AI G K S { V with t := t', u := u', B := B', L := L' } N w' := by
 have h0 : ¬ K.tf V 0 := fun hx => by have := Ip.tlo h.tb hx; have := h.ei.ep.h0; omega
 refine ⟨⟨h.ei.ep.only hO (fun i hi hx => h.s2 i hx hi) h0, h.ei.eq, h.ei.es⟩, h.gv, h.cap, h.rd.only hO (fun i hi hx => h.rt hi hx), hR, h.s1, fun i hi hx => ?_, h.lo⟩
 rcases hg i hi with x | x
 . exact h.s2 i x hx
 . have := h.ei.ep.at_ hx
   omega
end
end Go.Proofs.YtbkpdapagfjmmaaGreatDoor
