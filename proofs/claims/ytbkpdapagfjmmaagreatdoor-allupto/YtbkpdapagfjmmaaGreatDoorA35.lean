import Derived.Test.YtbkpdapagfjmmaaGreatDoorA34
import Derived.BigQuiet
set_option linter.unusedVariables false
set_option maxRecDepth 100000
set_option maxHeartbeats 16000000
namespace Go.Proofs.YtbkpdapagfjmmaaGreatDoor
open Go.RowKit
def J7 (b : Nat) (rs : List Nat) (fs : List Lk.Fr) : PD := ⟨gQ, gQ, gQ, [], rs, b, 0, fun _ => .none, fs⟩
theorem l9 {b : Nat} {rs : List Nat} {fs : List Lk.Fr} {i : Nat} (h : foot b (J7 b rs fs) i) : i = b ∨ i ∈ rs := by
 rcases h with hi | hi | hi | hi | hi | hi | hi | ⟨k, hi⟩
 . exact .inl hi
 . cases hi
 . cases hi
 . cases hi
 . cases hi
 . exact .inr hi
 . exact .inl hi
 . cases hi
theorem Fe (b flt : Nat) (e : Lk.En) (d : PD) (w : World) (hL : Live w b e d) (hf : flt ≠ 0) :
 Calls Tryz.prog 50 #[.pointer (some ⟨b, 0, none⟩), .int .i64 (flt : Int)] w fun r w' => r = .returned (.tuple #[]) ∧ iO w b d (e.dn flt).falls w' := by
 have hpb := hL.pos b (.inl rfl)
 have hbl := hL.rw.lt
 by_cases hby : e.iH = true
 . have hfe : (e.dn flt).falls = e.dn flt := by
    unfold Lk.En.falls
    rw [if_neg]
    show ¬ (flt ≠ 0 ∧ e.iH = false)
    rw [hby]
    simp
   rw [hfe]
   refine (J6 b flt (fH e d) d.fs w hL.rw hby).mono ?_
   rintro r w' ⟨rfl, hR, hO⟩
   refine ⟨rfl, J7 b d.rs d.fs, .inr ⟨hR, hL.o9, hL.good, hf, ⟨rfl, rfl, rfl, rfl, rfl, fun _ => rfl⟩, hL.wf.iI flt, fun i hi => ?_⟩, fun i hi => ?_, hO.mono (fun i hi => .inl hi)⟩
   . rcases l9 hi with rfl | hi
     . exact hpb
     . exact hL.pos i (.inr (.inr (.inr (.inr (.inr (.inl hi))))))
   . rcases l9 hi with rfl | hi
     . exact .inl (.inl rfl)
     . exact .inl (.inr (.inr (.inr (.inr (.inr (.inl hi))))))
 . have RQ : e.iH = false := by simpa using hby
   have hfe : (e.dn flt).falls = (e.dn flt).bye := by
    unfold Lk.En.falls
    rw [if_pos]
    exact ⟨hf, RQ⟩
   rw [hfe]
   have hW : Lk.Wf (e.dn flt).bye := (hL.wf.iI flt).bye
   have hn2 : ah e <= 268435457 := lY hL.wf
   refine (DI b flt (ah e) (fH e d) d.fs w hL.rw RQ rfl hn2).mono ?_
   rintro r w' ⟨rfl, m, hm, hR, hO⟩
   have hlo : (e.dn flt).bT = ah e - 2 := wH (hL.wf.iI flt)
   have hR' : Rw w' b (Ae (e.dn flt).bye (J7 b (d.rs ++ [m]) (d.fs ++ [⟨7, 0, Lk.wire (ah e - 2)⟩]))) (J7 b (d.rs ++ [m]) (d.fs ++ [⟨7, 0, Lk.wire (ah e - 2)⟩])).fs := hR
   refine ⟨rfl, J7 b (d.rs ++ [m]) (d.fs ++ [⟨7, 0, Lk.wire (ah e - 2)⟩]), .inr ⟨hR', ?_, ?_, hf, ⟨rfl, rfl, rfl, rfl, rfl, fun _ => rfl⟩, hW, fun i hi => ?_⟩, fun i hi => ?_, hO.mono (fun i hi => ?_)⟩
   . show (e.dn flt).row ++ [Lk.packed 7 0 (Lk.wire (e.dn flt).bT)] = _
     rw [hlo]
     show e.row ++ _ = _
     rw [hL.o9]
     show _ = (d.fs ++ [_]).map _
     rw [List.map_append]
     rfl
   . intro f hf'
     rcases List.mem_append.1 hf' with hf' | hf'
     . exact hL.good f hf'
     . simp at hf'
       subst hf'
       exact Lk.qU _ (by omega)
   . rcases l9 hi with rfl | hi
     . exact hpb
     . rcases List.mem_append.1 hi with hi | hi
       . exact hL.pos i (.inr (.inr (.inr (.inr (.inr (.inl hi))))))
       . simp at hi
         omega
   . rcases l9 hi with rfl | hi
     . exact .inl (.inl rfl)
     . rcases List.mem_append.1 hi with hi | hi
       . exact .inl (.inr (.inr (.inr (.inr (.inr (.inl hi))))))
       . simp at hi
         subst hi
         exact .inr hm
   . rcases hi with hi | hi
     . exact .inl hi
     . exact .inr (.inr (.inr (.inr (.inr (.inl hi)))))
structure Said (w : World) (B : Nat) (v : Value) (evs : List EvH) : Prop where
 row : w.ownsRow B 116 5 v evs.length (nH evs)
 hds : ∀ p ∈ evs, w.ownsRow B 112 2 p.2 p.1.hs.length (aQ p.1.hs)
 apart : evs.Pairwise fun p q => p.2.ownBlock = none ∨ p.2.ownBlock ≠ q.2.ownBlock
def yQ (v : Value) (evs : List EvH) (i : Nat) : Prop := v.ownBlock = some i ∨ ∃ p ∈ evs, p.2.ownBlock = some i
theorem Said.only {S : Nat -> Prop} {w w' : World} {B : Nat} {v : Value} {evs : List EvH} (h : Said w B v evs) (k : Only S w w') (hn : ∀ i, yQ v evs i -> ¬ S i) : Said w' B v evs :=
 ⟨ag h.row k (fun i hi => hn i (.inl hi)), fun p hp => ag (h.hds p hp) k (fun i hi => hn i (.inr ⟨p, hp, hi⟩)), h.apart⟩
theorem Said.lt {w : World} {B : Nat} {v : Value} {evs : List EvH} (h : Said w B v evs) : ∀ i, yQ v evs i -> B <= i ∧ i < w.heap.size := by
 intro i hi
 rcases hi with hi | ⟨p, hp, hi⟩
 . exact h.row.lt i hi
 . exact (h.hds p hp).lt i hi
theorem Said.nil (w : World) (B : Nat) : Said w B (.slice none 0 0) [] := ⟨World.ownsRow_nil _ _ _ _, by simp, by simp⟩
def DJ (w : World) (b : Nat) (d : PD) (e' : Lk.En) (evl : List Lk.Ev) (v : Value) (w' : World) : Prop :=
 ∃ d' evs, evs.map Prod.fst = evl ∧ kM w' b e' d' ∧ Said w' w.heap.size v evs ∧ (∀ i, yQ v evs i -> ¬ foot b d' i) ∧ (∀ i, foot b d' i -> foot b d i ∨ w.heap.size <= i) ∧ Only (foot b d) w w'
theorem Only.tight {S : Nat -> Prop} {w w' : World} (h : Only (fun i => S i ∨ w.heap.size <= i) w w') : Only S w w' :=
 ⟨h.os, h.tape, h.output, h.size, fun i hi hn => h.block i hi (fun hx => hx.elim hn (fun h => by omega))⟩
theorem Live.again {w w' : World} {b : Nat} {e : Lk.En} {d : PD} (h : Live w b e d) {r : Lk.Bs} {x : Nat} (hr : Lk.all r = ([], 0, r)) (hI : Is w' b 101 (fH ((e.at r).dn x) d).cells) (hO : Only (· = b) w w') : Live w' b ((e.at r).dn x) d := by
 have hR : Rw w' b (fH ((e.at r).dn x) d) d.fs := h.rw.cell hI hO rfl
 have := (h.I5 (e' := (e.at r).dn x) (rs' := d.rs) (fs' := d.fs) hR (hO.mono (fun i hi => .inl hi)) rfl rfl rfl rfl rfl h.o9 h.good ((h.wf.at hr).iI x) (fun y hy => .inl hy)).1
 exact this
structure Fd (w W : World) (b g : Nat) (d : PD) (fv : Value) (fs : List Lk.Fr) (R : List Lk.Ev × Nat × Lk.En) (i : Nat) (e1 : Lk.En) (d1 : PD) (v1 : Value) (yR : List EvH) : Prop where
 up : FS W b e1 d1 g w.heap.size v1 yR
 len : yR.length <= 2 * i
 frs : W.ownsRow w.heap.size 79 3 fv fs.length (aZ fs)
 sep : ∀ x, fv.ownBlock = some x -> ¬ foot b d1 x ∧ ¬ aN g v1 yR x
 grow : ∀ i, foot b d1 i -> foot b d i ∨ w.heap.size <= i
 only : Only (fun i => foot b d i ∨ w.heap.size <= i) w W
 res : (yR.map Prod.fst ++ (e1.run (fs.drop i)).1, (e1.run (fs.drop i)).2) = R
theorem Fd.below {w W W' : World} {b g : Nat} {d : PD} {fv : Value} {fs : List Lk.Fr} {R : List Lk.Ev × Nat × Lk.En} {i : Nat} {e1 : Lk.En} {d1 : PD} {v1 : Value} {yR : List EvH} (h : Fd w W b g d fv fs R i e1 d1 v1 yR) (hb : Below W.heap.size W W') : Fd w W' b g d fv fs R i e1 d1 v1 yR :=
 ⟨h.up.below hb, h.len, ag h.frs (Only.of_below hb (fun _ => False)) (fun _ _ h => h), h.sep, h.grow, h.only.below hb, h.res⟩
theorem Fd.step {w W W' : World} {b g : Nat} {d : PD} {fv : Value} {fs : List Lk.Fr} {R : List Lk.Ev × Nat × Lk.En} {i : Nat} {e1 : Lk.En} {d1 : PD} {v1 : Value} {yR : List EvH} (h : Fd w W b g d fv fs R i e1 d1 v1 yR) (hi : i < fs.length) (hG : az W b d1 g w.heap.size v1 yR (e1.frame fs[i]).2.2 (e1.frame fs[i]).1 W') :
 ∃ d2 v2 A7, FS W' b (e1.frame fs[i]).2.2 d2 g w.heap.size v2 A7 ∧ (∀ i, foot b d2 i -> foot b d i ∨ w.heap.size <= i) ∧ Only (fun i => foot b d i ∨ w.heap.size <= i) w W' ∧ A7.length <= 2 * (i + 1)
  ∧ ((e1.frame fs[i]).2.1 = 0 -> Fd w W' b g d fv fs R (i + 1) (e1.frame fs[i]).2.2 d2 v2 A7)
  ∧ ((e1.frame fs[i]).2.1 ≠ 0 -> R = (A7.map Prod.fst, (e1.frame fs[i]).2.1, (e1.frame fs[i]).2.2)) := by
 obtain ⟨d2, v2, news, a1, a2, a3, a4, a5⟩ := hG
 have hlen : (yR ++ news).length <= 2 * (i + 1) := by
  have h1 := Lk.En.zW e1 fs[i]
  rw [<- a1, List.length_map] at h1
  have := h.len
  rw [List.length_append]
  omega
 have hgrow : ∀ i, foot b d2 i -> foot b d i ∨ w.heap.size <= i := fun x hx => by
  rcases a3 x hx with h' | h'
  . exact h.grow x h'
  . exact .inr (Nat.le_trans h.only.size h')
 have RV : Only (fun i => foot b d i ∨ w.heap.size <= i) w W' := h.only.trans a5 (fun x hx _ => by
  rcases hx with hx | hx
  . exact h.grow x hx
  . exact .inr (h.up.JY x hx))
 have hd : fs.drop i = fs[i] :: fs.drop (i + 1) := List.drop_eq_getElem_cons hi
 have hres := h.res
 rw [hd, Lk.En.run] at hres
 refine ⟨d2, v2, yR ++ news, a2, hgrow, RV, hlen, fun h0 => ⟨a2, hlen, ?_, fun x hx => ?_, hgrow, RV, ?_⟩, fun h0 => ?_⟩
 . refine ag h.frs a5 (fun x hx hy => ?_)
   rcases hy with hy | hy
   . exact (h.sep x hx).1 hy
   . exact (h.sep x hx).2 hy
 . have hlt := (h.frs.lt x hx).2
   refine ⟨fun hy => ?_, fun hy => ?_⟩
   . rcases a3 x hy with h' | h'
     . exact (h.sep x hx).1 h'
     . omega
   . rcases a4 x hy with h' | h'
     . exact (h.sep x hx).2 h'
     . omega
 . rw [if_neg (by rw [h0]; simp)] at hres
   rw [<- hres, List.map_append, a1, List.append_assoc]
 . rw [if_pos h0] at hres
   rw [<- hres, List.map_append, a1]
theorem Fd.fine {w W : World} {b g : Nat} {d d2 : PD} {e2 : Lk.En} {v2 : Value} {A7 : List EvH} (h : FS W b e2 d2 g w.heap.size v2 A7) (hg : ∀ i, foot b d2 i -> foot b d i ∨ w.heap.size <= i) (hO : Only (fun i => foot b d i ∨ w.heap.size <= i) w W) (h0 : e2.down = 0) : DJ w b d e2 (A7.map Prod.fst) v2 W :=
 ⟨d2, A7, rfl, .inl ⟨h.live, h0⟩, ⟨h.told.row, h.told.hds, h.told.apart⟩, fun i hi => h.sep i (hi.elim (fun h => .inr (.inl h)) (fun h => .inr (.inr h))), hg, hO.tight⟩
theorem Fd.fell {w W W' : World} {b g : Nat} {d d2 : PD} {e2 e3 : Lk.En} {v2 : Value} {A7 : List EvH} (h : FS W b e2 d2 g w.heap.size v2 A7) (hg : ∀ i, foot b d2 i -> foot b d i ∨ w.heap.size <= i) (hO : Only (fun i => foot b d i ∨ w.heap.size <= i) w W) (hP : iO W b d2 e3 W') : DJ w b d e3 (A7.map Prod.fst) v2 W' := by
 obtain ⟨d3, h1, h2, h3⟩ := hP
 have hT := h.told.only h3 h.sep
 refine ⟨d3, A7, rfl, h1, ⟨hT.row, hT.hds, hT.apart⟩, fun i hi hf => ?_, fun i hi => ?_, (hO.trans h3 (fun i hi _ => hg i hi)).tight⟩
 . have hi' : aN g v2 A7 i := hi.elim (fun h => .inr (.inl h)) (fun h => .inr (.inr h))
   rcases h2 i hf with h' | h'
   . exact h.sep i hi' h'
   . have := h.told.lt i hi'
     omega
 . rcases h2 i hi with h' | h'
   . exact hg i h'
   . exact .inr (Nat.le_trans hO.size h')
end Go.Proofs.YtbkpdapagfjmmaaGreatDoor

namespace Go.Proofs.YtbkpdapagfjmmaaGreatDoor.Lk
def zs (s : Bs) : Nat := (s.map fun x => if x = 0 then 2 else 1).sum
theorem gm (a b : Bs) : zs (a ++ b) = zs a + zs b := by simp [zs]
theorem pR (x : UInt8) (s : Bs) : zs (x :: s) = (if x = 0 then 2 else 1) + zs s := by simp [zs]
theorem xe : zs [] = 0 := rfl
theorem DK : ∀ (s : Bs), s.length <= zs s
 | [] => Nat.le_refl _
 | x :: s => by
   have := DK s
   rw [pR, List.length_cons]
   split <;> omega
theorem J8 : ∀ (s : Bs), zs s <= 2 * s.length
 | [] => Nat.le_refl _
 | x :: s => by
   have := J8 s
   rw [pR, List.length_cons]
   split <;> omega
theorem yS (n : Nat) (h0 : 0 < n) : zs (wire n) = (wire n).length := by
 induction n using Nat.strongRecOn with
 | _ n ih =>
   by_cases h : n < 128
   . rw [gu n h, pR, if_neg (fun hx => ?_)]
     . rfl
     . have : (UInt8.ofNat n).toNat = 0 := by rw [hx]; rfl
       simp at this
       omega
   . rw [iG n h, pR, List.length_cons, ih (n / 128) (by omega) (by omega), if_neg (fun hx => ?_)]
     . omega
     . have : (UInt8.ofNat (128 + n % 128)).toNat = 0 := by rw [hx]; rfl
       simp at this
       omega
theorem kH : zs (wire 0) = 2 := by rw [gu 0 (by omega)]; rfl
theorem NF (n : Nat) (h : ¬ n < 128) : 2 <= (wire n).length := by
 rw [iG n h, List.length_cons]
 have := dw (n / 128)
 omega
theorem oG (k : Nat) (hk : 0 < k) (hk7 : k <= 7) (st : Nat) (d : Bs) : zs (packed k st d) = 1 + zs (wire st) + zs (wire d.length) + zs d := by
 unfold packed
 rw [pR, gm, gm, if_neg (fun hx => ?_)]
 . simp only [Int.toNat_natCast]; omega
 . have : (UInt8.ofNat (k : Int).toNat).toNat = 0 := by rw [hx]; rfl
   simp at this
   omega
theorem Hy (st : Nat) (d : Bs) : zs (packed (0 : Nat) st d) = 2 + zs (wire st) + zs (wire d.length) + zs d := by
 unfold packed
 rw [pR, gm, gm]
 simp
 omega
theorem J9 (k : Nat) (hk : 0 < k) (hk7 : k <= 7) (st n : Nat) (hn : n <= 268435455) : zs (packed k st (wire n)) = 2 + zs (wire st) + zs (wire n) := by
 have h1 := au n hn
 have h2 := dw n
 rw [oG k hk hk7, yS _ h2, gK _ (by omega)]
 omega
theorem Ff (n : Nat) (h : n <= 268435455) : zs (wire n) <= 4 := by
 have := au n h
 by_cases h0 : n = 0
 . subst h0; rw [kH]; omega
 . rw [yS n (by omega)]; exact this
theorem lS (k : Nat) (hk : 0 < k) (hk7 : k <= 7) (st n : Nat) (hs : st <= 268435455) (hn : n <= 268435455) : zs (packed k st (wire n)) <= 10 := by
 rw [J9 k hk hk7 st n hn]
 have := Ff n hn
 have := Ff st hs
 omega
def DL (l : List Bs) : Nat := (l.map zs).sum
def pz (o : Ot) : Nat := (if o.opn = true ∧ 0 < o.held then 2 else 0) + (if o.id <= 127 then o.cr else 0)
def En.zm (e : En) : Nat := DL e.row + 2 * (e.own.map uQ).sum + (e.oth.map pz).sum + 200 * (64 - e.oth.length)
theorem DR (a b : List Bs) : DL (a ++ b) = DL a + DL b := by simp [DL]
theorem NG (s : Bs) : DL [s] = zs s := by simp [DL]
theorem jB (e : En) (k st : Nat) (d : Bs) : (e.send k st d).zm = e.zm + zs (packed k st d) := by
 unfold En.send En.zm
 simp only [DR, NG]
 omega
theorem DT (e : En) (n : Nat) (hn : n <= 200) : (e.back n).zm <= e.zm + (if 0 < n then 4 + (wire n).length else 0) := by
 unfold En.back
 split
 . rename_i h
   rw [jB, J9 4 (by omega) (by omega) 0 n (by omega), kH, yS n h]
   show e.zm + _ <= _
   omega
 . simp
theorem NH {e : En} (hw : Wf e) {f : Fr} (hg : Good f.k f.st f.d) : (e.frame f).2.2.zm <= e.zm + zs f.pack := by
 have hp0 : zs f.pack = zs (packed f.k f.st f.d) := rfl
 have hz1 := DK (wire f.st)
 have hz2 := DK (wire f.d.length)
 have hz3 := DK f.d
 have hp1 := dw f.st
 have hp2 := dw f.d.length
 have hwin := hw.kN
 unfold En.frame
 split
 . rename_i hk
   have hp : zs f.pack = 2 + zs (wire f.st) + zs (wire f.d.length) + zs f.d := by rw [hp0, hk, Hy]
   unfold En.gX
   split
   . show e.zm <= _; omega
   . rename_i hid
     have Lc : f.st = 2 * e.oth.length + 2 - e.side := by omega
     have hside := hw.side
     have hrv : ∀ o : Ot, o.id = f.st -> o.cr = e.win -> o.held = 0 -> ((e.oth ++ [o]).map pz).sum + 200 * (64 - (e.oth ++ [o]).length) <= (e.oth.map pz).sum + 200 * (64 - e.oth.length) := by
      intro o h1 h2 h3
      have hq : pz o = if f.st <= 127 then e.win else 0 := by
       unfold pz
       rw [h1, h2, h3]
       simp
      rw [List.map_append, List.sum_append, List.length_append]
      simp only [List.map_cons, List.map_nil, List.sum_cons, List.sum_nil, List.length_cons, List.length_nil, hq]
      split <;> omega
     split
     . show e.zm <= _; omega
     . split
       . rename_i hs L hx hb
         have hr := hrv ⟨f.st, e.win, 0, false, true⟩ rfl rfl rfl
         rw [jB, J9 3 (by omega) (by omega) f.st 0 (by omega), kH]
         have hd2 : 2 <= zs (wire f.d.length) + zs f.d := by
          by_cases h0 : f.d.length = 0
          . rw [h0, kH]; omega
          . omega
         show DL e.row + 2 * (e.own.map uQ).sum + ((e.oth ++ [(⟨f.st, e.win, 0, false, true⟩ : Ot)]).map pz).sum + 200 * (64 - (e.oth ++ [(⟨f.st, e.win, 0, false, true⟩ : Ot)]).length) + _ <= _
         unfold En.zm
         omega
       . have hr := hrv ⟨f.st, e.win, 0, true, false⟩ rfl rfl rfl
         show DL e.row + 2 * (e.own.map uQ).sum + ((e.oth ++ [(⟨f.st, e.win, 0, true, false⟩ : Ot)]).map pz).sum + 200 * (64 - (e.oth ++ [(⟨f.st, e.win, 0, true, false⟩ : Ot)]).length) <= _
         unfold En.zm
         omega
 . rename_i hk0
   have hp : zs f.pack = 1 + zs (wire f.st) + zs (wire f.d.length) + zs f.d := by rw [hp0, oG f.k (by omega) hg.k7]
   have oset : ∀ (i : Nat) (o o' : Ot) (r : Nat), e.oth[i]? = some o -> ({ e with oth := e.oth.set i o', room := r } : En).zm + pz o = e.zm + pz o' := by
    intro i o o' r ho
    have := lu pz e.oth i o o' ho
    unfold En.zm
    simp only [List.length_set]
    omega
   split
   . rename_i hk
     have hgl : f.d.length <= 16 := by
      have := hg.length
      rcases hk with hk | hk <;> rw [hk] at this <;> simp [aA] at this <;> omega
     unfold En.bH
     split
     . show e.zm <= _; omega
     . rename_i i o hx
       obtain ⟨hix, ho⟩ := dH hx
       obtain ⟨o', ho', hid⟩ := bg hix
       simp only at ho ho'
       have hid : o.id = f.st := by
        rw [ho] at ho'
        cases ho'
        omega
       split
       . show e.zm <= _; omega
       . split
         . show e.zm <= _; omega
         . rename_i hcr
           split
           . have := oset i o { o with cr := o.cr - f.d.length, held := o.held + f.d.length, opn := decide (f.k ≠ 2), drp := o.drp && decide (f.k ≠ 2) } (e.room - f.d.length) ho
             have h1 : pz { o with cr := o.cr - f.d.length, held := o.held + f.d.length, opn := decide (f.k ≠ 2), drp := o.drp && decide (f.k ≠ 2) } <= pz o + 2 := by
              unfold pz
              simp only
              split <;> split <;> split <;> omega
             dsimp only
             omega
           . rename_i hop
             have := oset i o { o with cr := o.cr - f.d.length, drp := decide (f.k ≠ 2) } (e.room - f.d.length) ho
             have h1 : pz { o with cr := o.cr - f.d.length, drp := decide (f.k ≠ 2) } + (if f.st <= 127 then f.d.length else 0) = pz o := by
              unfold pz
              simp only [hid]
              split <;> split <;> omega
             have hb := DT ({ e with oth := e.oth.set i { o with cr := o.cr - f.d.length, drp := decide (f.k ≠ 2) }, room := e.room - f.d.length } : En) f.d.length (by omega)
             have hwl : (wire f.d.length).length = 1 := gK _ (by omega)
             dsimp only
             by_cases hst : f.st <= 127
             . rw [if_pos hst] at h1
               split at hb <;> omega
             . rw [if_neg hst] at h1
               have := NF f.st (by omega)
               split at hb <;> omega
   . split
     . rename_i hk
       have hgl : 1 <= f.d.length := by
        have := hg.length
        rw [hk] at this
        simp [aA] at this
        omega
       unfold En.dh
       split
       . rename_i i o hx
         obtain ⟨_, ho⟩ := dH hx
         split
         . show e.zm <= _; omega
         . have := lu uQ e.own i o { o with done := true } ho
           have h1 : uQ { o with done := true } = 0 := rfl
           unfold En.zm
           simp only
           omega
       . split
         . show e.zm <= _; omega
         . rename_i i o hx
           obtain ⟨_, ho⟩ := dH hx
           split
           . rename_i hop
             dsimp only at ho ⊢
             have hh := hw.held ho
             have := oset i o { o with opn := false, held := 0 } e.room ho
             have h1 : pz { o with opn := false, held := 0 } + (if 0 < o.held then 2 else 0) = pz o := by
              unfold pz
              simp only [hop]
              split <;> simp_all <;> omega
             have hb := DT ({ e with oth := e.oth.set i { o with opn := false, held := 0 } } : En) o.held hh
             have hwl : (wire o.held).length <= 2 := kR _ (by omega)
             split at hb
             . rename_i hpos
               rw [if_pos hpos] at h1
               omega
             . rename_i hpos
               rw [if_neg hpos] at h1
               omega
           . have := oset i o { o with drp := false } e.room ho
             have h1 : pz { o with drp := false } = pz o := rfl
             dsimp only
             omega
     . split
       . unfold En.bU
         split
         . split
           . show e.zm <= _; omega
           . show e.zm <= _; omega
         . split
           . show e.zm <= _; omega
           . rename_i i o hx
             obtain ⟨_, ho⟩ := dH hx
             split
             . show e.zm <= _; omega
             . split
               . show e.zm <= _; omega
               . have := lu uQ e.own i o { o with cr := o.cr + numOf f.d } ho
                 have h1 : uQ { o with cr := o.cr + numOf f.d } = uQ o := rfl
                 unfold En.zm
                 simp only
                 omega
       . split
         . rw [jB, oG 6 (by omega) (by omega), kH]
           have : 2 <= zs (wire f.st) := by
            by_cases h0 : f.st = 0
            . rw [h0, kH]; omega
            . have := hg.stream
              rename_i hk
              rw [hk] at this
              simp [aC] at this
              omega
           omega
         . split
           . show e.zm <= _; omega
           . show e.zm <= _; omega
theorem xg (f : Fr) (l : List Fr) : zs (eQ (f :: l)) = zs f.pack + zs (eQ l) := by
 have : eQ (f :: l) = f.pack ++ eQ l := rfl
 rw [this, gm]
theorem RX : ∀ (l : Bs), zs (Lk.all l).2.2 + zs (eQ (Lk.all l).1) <= zs l := by
 intro l
 induction h : l.length using Nat.strongRecOn generalizing l with
 | _ n ih =>
   subst h
   cases hx : nx l with
   | more => rw [iU hx]; simp [eQ, xe]
   | err e => rw [mW hx]; simp [eQ, xe]
   | frame k st d n =>
     have hb := aV hx
     have hg := IE hx
     have := ih (l.drop n).length (by rw [List.length_drop]; omega) (l.drop n) rfl
     rw [ja hx]
     have hp : zs (eQ (⟨k, st, d⟩ :: (Lk.all (l.drop n)).1)) = zs (l.take n) + zs (eQ (Lk.all (l.drop n)).1) := by
      rw [xg]
      show zs (packed k st d) + _ = _
      rw [hg.2]
     have hl : zs l = zs (l.take n) + zs (l.drop n) := by rw [<- gm, List.take_append_drop]
     simp only [hp]
     omega
theorem OM : ∀ (l : List Fr) {e : En}, Wf e -> (∀ f ∈ l, Good f.k f.st f.d) -> (e.run l).2.2.zm <= e.zm + zs (eQ l)
 | [], e, _, _ => by
   show e.zm <= e.zm + 0
   omega
 | f :: l, e, hw, h => by
   have h1 := NH hw (h f (by simp))
   have h2 := OM l (hw.frame (h f (by simp))) (fun g hg => h g (by simp [hg]))
   rw [En.run, xg]
   split
   . omega
   . simp only
     omega
theorem OO {e : En} (hw : Wf e) : e.bye.zm <= e.zm + 10 := by
 show (e.send 7 0 (wire e.bT)).zm <= _
 have h1 := lS 7 (by omega) (by omega) 0 e.bT (by omega) hw.bT
 rw [jB]
 omega
theorem NI {e : En} (hw : Wf e) : e.falls.zm <= e.zm + 10 := by
 unfold En.falls
 split
 . exact OO hw
 . omega
theorem Ko {e : En} (hw : Wf e) (b : Bs) : (e.feed b).2.zm + zs (e.feed b).2.rest <= e.zm + zs e.rest + zs b + 10 := by
 by_cases hd : e.down = 0
 . obtain ⟨hg, _⟩ := kY (e.rest ++ b)
   have hres := qV (e.rest ++ b)
   have hrl := RX (e.rest ++ b)
   rw [gm] at hrl
   rw [e.qZ b hd _ rfl _ rfl]
   generalize Lk.all (e.rest ++ b) = A at *
   obtain ⟨fs, flt, rest⟩ := A
   simp only at hg hres hrl ⊢
   have hw0 : Wf ((e.at rest).dn flt) := (hw.at hres).iI flt
   have h1 := OM fs hw0 hg
   have h2 := MI fs ((e.at rest).dn flt)
   have hwr := Wf.run fs hw0 hg
   generalize ((e.at rest).dn flt).run fs = R at *
   have h5 := Gi (R.2.2.dn (if R.2.1 = 0 then flt else R.2.1))
   rw [h5]
   have h6 : (R.2.2.dn (if R.2.1 = 0 then flt else R.2.1)).rest = rest := h2
   have h10 : ((e.at rest).dn flt).zm = e.zm := rfl
   have h3' : (R.2.2.dn (if R.2.1 = 0 then flt else R.2.1)).falls.zm <= R.2.2.zm + 10 := NI (hwr.iI (if R.2.1 = 0 then flt else R.2.1))
   rw [h10] at h1
   rw [h6]
   omega
 . rw [e.jP b hd]
   show e.zm + zs e.rest <= _
   omega
theorem NJ (e : En) (t : Bs) : (e.iy t).2.zm <= e.zm + 400 := by
 unfold En.iy
 split
 . show e.zm <= _; omega
 . split
   . show e.zm <= _; omega
   . rename_i h
     show (e.send 5 0 t).zm <= _
     rw [jB, oG 5 (by omega) (by omega), kH]
     have h8 : t.length = 8 := by omega
     have := J8 t
     rw [h8, yS 8 (by omega), gK 8 (by omega)]
     omega
theorem Qh {e : En} (hw : Wf e) : e.iC.2.zm <= e.zm + 400 := by
 unfold En.iC
 split
 . show e.zm <= _; omega
 . split
   . show e.zm <= _; omega
   . have := OO hw
     simp only
     omega
theorem Hz (e : En) (l : List Hd) (body : Bs) : (e.aW l body).2.zm <= e.zm + 5000 := by
 unfold En.aW
 split
 . show e.zm <= _; omega
 . split
   . show e.zm <= _; omega
   . split
     . show e.zm <= _; omega
     . split
       . show e.zm <= _; omega
       . rename_i hl
         split
         . show e.zm <= _; omega
         . rename_i hf
           show (En.send _ 0 e.nextId _).zm <= _
           rw [jB]
           have h1 := J8 (packed (0 : Nat) e.nextId (squeeze 100 e.out l).1)
           rw [wB] at h1
           have h4 := au e.nextId (by omega)
           have h2 : (wire (squeeze 100 e.out l).1.length).length = 1 := gK _ (by omega)
           have h3 : ([(⟨e.nextId, body, e.win, false⟩ : Ow)].map uQ).sum <= 2106 := by
            simp [uQ]
            omega
           show DL e.row + 2 * ((e.own ++ [(⟨e.nextId, body, e.win, false⟩ : Ow)]).map uQ).sum + (e.oth.map pz).sum + 200 * (64 - e.oth.length) + _ <= _
           rw [List.map_append, List.sum_append]
           unfold En.zm
           simp only [Int.toNat_natCast] at *
           omega
theorem DU {e : En} (hw : Wf e) (st n : Int) : (e.aP st n).2.zm <= e.zm + 400 := by
 unfold En.aP
 split
 . show e.zm <= _; omega
 . split
   . show e.zm <= _; omega
   . split
     . show e.zm <= _; omega
     . rename_i i hi
       split
       . show e.zm <= _; omega
       . rename_i o ho
         split
         . show e.zm <= _; omega
         . rename_i hh
           have MZ := hw.held ho
           have hid := (hw.oth i o ho).oL
           have hs := lu pz e.oth i o (o.eat n.toNat) ho
           have hpo : pz (o.eat n.toNat) <= pz o + 202 := by
            unfold pz Ot.eat
            simp only
            repeat' split
            all_goals omega
           have hm : ({ e with oth := e.oth.set i (o.eat n.toNat), room := e.room + n.toNat } : En).zm <= e.zm + 202 := by
            unfold En.zm
            simp only [List.length_set]
            omega
           have hn : n.toNat <= 268435455 := by omega
           have h1 := lS 4 (by omega) (by omega) 0 n.toNat (by omega) hn
           have h2 := lS 4 (by omega) (by omega) o.id n.toNat hid hn
           simp only
           split
           . rw [jB, jB]
             omega
           . rw [jB]
             omega
theorem Kr {e : En} (hw : Wf e) (st code : Int) : (e.dN st code).2.zm <= e.zm + 400 := by
 unfold En.dN
 split
 . show e.zm <= _; omega
 . split
   . show e.zm <= _; omega
   . rename_i hc
     split
     . rename_i i o hx
       have ho : e.own[i]? = some o := by
        cases hy : bK e.own st with
        | none => rw [hy] at hx; cases hx
        | some j =>
          rw [hy] at hx
          simp only [Option.bind_some] at hx
          cases hz : e.own[j]? with
          | none => rw [hz] at hx; cases hx
          | some q =>
            rw [hz] at hx
            simp only [Option.bind_some] at hx
            split at hx
            . cases hx
            . cases hx; exact hz
       have hs := lu uQ e.own i o { o with done := true } ho
       have h1 : uQ { o with done := true } = 0 := rfl
       have h2 := lS 3 (by omega) (by omega) o.id code.toNat (hw.own i o ho).oL (by omega)
       rw [jB]
       have hm : ({ e with own := e.own.set i { o with done := true } } : En).zm <= e.zm := by
        unfold En.zm
        simp only
        omega
       omega
     . split
       . rename_i i o hx
         have ho : e.oth[i]? = some o := by
          cases hy : bM e.oth st with
          | none => rw [hy] at hx; cases hx
          | some j =>
            rw [hy] at hx
            simp only [Option.bind_some] at hx
            cases hz : e.oth[j]? with
            | none => rw [hz] at hx; cases hx
            | some q =>
              rw [hz] at hx
              simp only [Option.bind_some] at hx
              split at hx
              . cases hx; exact hz
              . cases hx
         have hs := lu pz e.oth i o { o with opn := false, drp := true, held := 0 } ho
         have h1 : pz { o with opn := false, drp := true, held := 0 } <= pz o := by
          unfold pz
          simp
         have h2 := lS 3 (by omega) (by omega) o.id code.toNat (hw.oth i o ho).oL (by omega)
         have hh := hw.held ho
         have hb := DT (({ e with oth := e.oth.set i { o with opn := false, drp := true, held := 0 } } : En).send 3 o.id (wire code.toNat)) o.held hh
         rw [jB] at hb
         have hm : ({ e with oth := e.oth.set i { o with opn := false, drp := true, held := 0 } } : En).zm <= e.zm := by
          unfold En.zm
          simp only [List.length_set]
          omega
         have hwl : (wire o.held).length <= 2 := kR _ (by omega)
         have hif : (if 0 < o.held then 4 + (wire o.held).length else 0) <= 6 := by split <;> omega
         dsimp only
         omega
       . show e.zm <= _; omega
theorem Kt {e e' : En} {s : Bs} (hw : Wf e) (h : e.bG = some (s, e')) : zs s + e'.zm <= e.zm := by
 have hq := Cm hw h
 unfold En.bG at h
 split at h
 . rename_i s' r hr
   cases h
   unfold En.zm
   rw [hr]
   simp only [DL, List.map_cons, List.sum_cons]
   omega
 . rename_i hr
   split at h
   . cases h
   . split at h
     . cases h
     . rename_i i hi
       obtain ⟨o, ho, hmay⟩ := lU hi
       rw [ho] at h
       have h' : e.cu i o = (s, e') := Option.some.inj h
       obtain ⟨rfl, rfl⟩ : (e.cu i o).1 = s ∧ (e.cu i o).2 = e' := by rw [h']; exact ⟨rfl, rfl⟩
       have h1 := J8 (e.cu i o).1
       have h2 : (e.cu i o).2.row = e.row := rfl
       have h3 : (e.cu i o).2.oth = e.oth := rfl
       unfold En.Pz at hq
       unfold En.zm
       rw [h2, h3] at hq ⊢
       omega
theorem Fg : ∀ (n : Nat) {e : En}, Wf e -> zs (En.drain n e).1 + (En.drain n e).2.zm <= e.zm
 | 0, e, _ => by simp [En.drain, xe]
 | n + 1, e, hw => by
   cases hd : e.bG with
   | none => simp [En.drain, hd, xe]
   | some p =>
     obtain ⟨s, e'⟩ := p
     have h1 := Kt hw hd
     have h2 := Fg n (hw.bG hd).1
     simp only [En.drain, hd]
     rw [gm]
     omega
theorem Ku (s w : Nat) : (En.new s w).zm = 12800 := by simp [En.new, En.zm, DL]
theorem A8 (e : En) (n : Nat) : (e.back n).row.length <= e.row.length + 1 := by
 unfold En.back
 split
 . show (e.row ++ [_]).length <= _; simp
 . omega
theorem uy (e : En) (f : Fr) : (e.frame f).2.2.row.length <= e.row.length + 1 ∧ (e.frame f).1.length <= 2 := by
 unfold En.frame
 split
 . unfold En.gX
   split
   . exact ⟨by show e.row.length <= _; omega, by simp⟩
   . split
     . exact ⟨by show e.row.length <= _; omega, by simp⟩
     . split
       . exact ⟨by show (e.row ++ [_]).length <= _; simp, by simp⟩
       . exact ⟨by show e.row.length <= _; omega, by simp⟩
 . split
   . unfold En.bH
     split
     . exact ⟨by show e.row.length <= _; omega, by simp⟩
     . split
       . exact ⟨by show e.row.length <= _; omega, by simp⟩
       . split
         . exact ⟨by show e.row.length <= _; omega, by simp⟩
         . split
           . refine ⟨by show e.row.length <= _; omega, ?_⟩
             rw [List.length_append]
             split <;> split <;> simp
           . exact ⟨A8 _ _, by simp⟩
   . split
     . unfold En.dh
       split
       . split
         . exact ⟨by show e.row.length <= _; omega, by simp⟩
         . exact ⟨by show e.row.length <= _; omega, by simp⟩
       . split
         . exact ⟨by show e.row.length <= _; omega, by simp⟩
         . split
           . exact ⟨A8 _ _, by simp⟩
           . exact ⟨by show e.row.length <= _; omega, by simp⟩
     . split
       . refine ⟨?_, by simp⟩
         unfold En.bU
         repeat' split
         all_goals (show e.row.length <= _; omega)
       . split
         . exact ⟨by show (e.row ++ [_]).length <= _; simp, by simp⟩
         . split
           . exact ⟨by show e.row.length <= _; omega, by simp⟩
           . exact ⟨by show e.row.length <= _; omega, by simp⟩
theorem NK {e : En} (hw : Wf e) : e.row.length <= e.zm := by
 have : ∀ l : List Bs, (∀ s ∈ l, 0 < s.length) -> l.length <= DL l := by
  intro l
  induction l with
  | nil => intro _; simp [DL]
  | cons s l ih =>
    intro h
    have h1 := ih (fun x hx => h x (by simp [hx]))
    have h2 := h s (by simp)
    have h3 := DK s
    simp only [DL, List.map_cons, List.sum_cons, List.length_cons] at *
    omega
 have h := this e.row (fun s hs => by
  obtain ⟨fs, h1, _⟩ := hw.row
  rw [h1] at hs
  obtain ⟨f, _, rfl⟩ := List.mem_map.1 hs
  unfold Fr.pack packed
  simp)
 unfold En.zm
 omega
end Go.Proofs.YtbkpdapagfjmmaaGreatDoor.Lk
