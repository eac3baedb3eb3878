import Derived.Test.YtbkpdapagfjmmaaGreatDoorA24
import Derived.Deep.RegionWith
set_option linter.unusedVariables false
set_option maxRecDepth 100000
set_option maxHeartbeats 16000000
namespace Go.Proofs.YtbkpdapagfjmmaaGreatDoor
open Go.RowKit
namespace Lk
theorem oz : ∀ (l : List Hd) (i : Nat), (di i l).1 = 0 -> (di i l).2 = 0
 | [], i, _ => rfl
 | x :: l, i, h => by
   rw [di] at h ⊢
   split at h
   . rename_i hg
     rw [if_pos hg]
     exact oz l (i + 1) h
   . cases h
theorem wrong_place {l : List Hd} (h : (wrong l).1 = 0) : (wrong l).2 = 0 := by
 unfold wrong at h ⊢
 split at h
 . cases h
 . rename_i hl
   rw [if_neg hl]
   exact oz l 0 h
end Lk
theorem qC (B : Nat) (hB : B <= 200) (w : World) :
 Calls Tryz.prog 53 #[.int .i64 B] w fun e w' => ∃ t, e = .returned (.tuple #[.pointer (some ⟨t, 0, none⟩), .int .i64 0]) ∧ w.heap.size <= t ∧ RTab w' t B [] (.slice none 0 0) ∧ Below w.heap.size w w' := by
 have h1 : ¬ (B : Int) < 0 := by omega
 have h2 : ¬ 200 < (B : Int) := by omega
 go_enter Tryz.func53, Tryz.ntmps53
 go_wp2_with fail
 go_ret2
 exact ⟨_, rfl, Nat.le_refl _, ⟨Is.new w 196 [.int .i64 B, .slice none 0 0], World.ownsRow_nil _ _ _ _, by simp [Lk.weights], hB⟩, (Below.refl _ _).alloc (Nat.le_refl _) _⟩
theorem yB (n : Int) (hn : n < 0 ∨ 200 < n) (w : World) :
 Calls Tryz.prog 53 #[.int .i64 n] w fun e w' => e = .returned (.tuple #[.pointer none, .int .i64 1]) ∧ Below w.heap.size w w' := by
 by_cases h1 : n < 0
 . go_enter Tryz.func53, Tryz.ntmps53
   go_wp2_with fail
   go_ret2
   exact ⟨rfl, Below.refl _ _⟩
 . have h2 : 200 < n := by omega
   go_enter Tryz.func53, Tryz.ntmps53
   go_wp2_with fail
   go_ret2
   exact ⟨rfl, Below.refl _ _⟩
theorem lZ {w w' : World} {t B n : Nat} {v : Value} {xs cs : List Value} {T : TypeId} (h : w.ownsRow B 206 2 v n xs) (hI : Is w t T cs) (hT : T ≠ 206) (hb : Turns t w w') : w'.ownsRow B 206 2 v n xs :=
 h.kept hb (.inr (fun e => own_ne h hI hT e.symm))
theorem Ar (t B1 : Nat) (l : List Lk.Hd) (lv : Value) (w : World) (hw : (Lk.wrong l).1 ≠ 0) (own : w.ownsRow B1 206 2 lv l.length (aQ l)) :
 Calls Tryz.prog 60 #[.pointer (some ⟨t, 0, none⟩), lv] w fun e w' =>
  e = .returned (.tuple #[.string ⟨#[]⟩, .int .i64 (Lk.wrong l).1, .int .i64 (Lk.wrong l).2]) ∧ Below w.heap.size w w' := by
 have HO := hide own
 clear own
 generalize hE1 : (Lk.wrong l).1 = E at hw ⊢
 have hE : ((E : Int) != 0) = true := by rw [bne_iff_ne]; omega
 have HE := hide hE1
 clear hE1
 go_enter Tryz.func60, Tryz.ntmps60
 go_wp2_with fail
 refine (lL B1 lv l _ (uh HO)).mono ?_
 rintro e w1 ⟨he, hb⟩
 rw [uh HE] at he
 subst he
 go_wp2_with fail
 go_ret3
 exact ⟨rfl, hb⟩
theorem ug (t B B1 : Nat) (L l : List Lk.Hd) (v lv : Value) (w : World) (hT : RTab w t B L v) (hw : (Lk.wrong l).1 = 0) (own : w.ownsRow B1 206 2 lv l.length (aQ l)) :
 Calls Tryz.prog 60 #[.pointer (some ⟨t, 0, none⟩), lv] w fun e w' =>
  e = .returned (.tuple #[.string (bs (Lk.squeeze B L l).1), .int .i64 0, .int .i64 0]) ∧ (∃ v', RTab w' t B (Lk.squeeze B L l).2 v' ∧ (v' = v ∨ ∀ k, v'.ownBlock = some k -> w.heap.size <= k)) ∧ Turns t w w' := by
 have hok := Lk.xy hw
 have hl6 := hok.1
 obtain ⟨la, X7, hlv⟩ := aJ own
 subst hlv
 have HO := hide own
 have HT := hide hT
 have HG := hide hok.2
 have hw2 : (Lk.wrong l).2 = 0 := Lk.wrong_place hw
 clear own hT hok
 generalize hS : bs (Lk.squeeze B L l).1 = S
 have HS := hide hS
 clear hS
 go_enter Tryz.func60, Tryz.ntmps60
 go_wp2_with fail
 refine (lL B1 _ l _ (uh HO)).mono ?_
 rintro e w1 ⟨he, hb⟩
 rw [hw, hw2] at he
 subst he
 have HT1 := hide ((uh HT).below hb)
 have HO1 := hide (own_below (uh HO) hb)
 have hTb := Below.turns hb t
 have hsz1 := hb.size
 clear hb
 go_wp2_with fail
 go_loopw [9, 10] (fun s u wr => ∃ (k : Nat) (v' : Value), u = .int .i64 k ∧ k <= l.length ∧ s = .string (bs (Lk.squeeze B L (l.take k)).1) ∧ RTab wr t B (Lk.squeeze B L (l.take k)).2 v' ∧ Turns t w1 wr ∧ Hid (v' = v ∨ ∀ k, v'.ownBlock = some k -> w.heap.size <= k)) (fun _ u _ => l.length - (intOf u).toNat)
 case atStart => exact ⟨0, v, rfl, by omega, rfl, uh HT1, Turns.refl _ _, .inl rfl⟩
 case round =>
  obtain ⟨k, v', rfl, hk, rfl, hTk, hTu, HNV⟩ := hrel
  by_cases hlt : k < l.length
  . have hlt' : (k : Int) < l.length := by omega
    obtain ⟨x, hx⟩ : ∃ x, l[k]? = some x := ⟨_, List.getElem?_eq_getElem hlt⟩
    obtain ⟨g, gc, hform, _⟩ := (uh HO1).form (by omega)
    cases hform
    obtain ⟨hg2, x0, x1⟩ := jJ (lZ (uh HO1) (uh HT1).blk (nbq rfl) hTu) hx
    have hxg := Lk.yw ((uh HG) x (List.mem_of_getElem? hx))
    have hsl := Lk.kF B hTk.hB (l.take k) L (uh HT).le (fun y hy => (uh HG) y (List.mem_of_mem_take hy))
    rw [List.length_take] at hsl
    have hol := Lk.EX B (Lk.squeeze B L (l.take k)).2 x (by rw [Lk.nM]; have := hTk.len; omega) hxg.1 hxg.2
    have e := Lk.kV B (l.take k) L x
    rw [take_snoc hx] at e
    have e1 := congrArg Prod.fst e
    have e2 := congrArg Prod.snd e
    simp only at e1 e2
    have s1 := ax (Lk.squeeze B L (l.take k)).1
    have s2 := ax (Lk.lT B (Lk.squeeze B L (l.take k)).2 x).1
    have hres := lq (Lk.squeeze B L (l.take k)).1 (Lk.lT B (Lk.squeeze B L (l.take k)).2 x).1
    rw [<- e1] at hres
    have HC := hide (MB t B _ x v' wr hTk hxg.1 hxg.2 (Lk.lT B (Lk.squeeze B L (l.take k)).2 x).1 (Lk.lT B (Lk.squeeze B L (l.take k)).2 x).2 (hide rfl))
    rw [<- e2] at HC
    generalize bs (Lk.squeeze B L (l.take k)).1 = W1 at *
    generalize bs (Lk.lT B (Lk.squeeze B L (l.take k)).2 x).1 = W2 at *
    have hadd : W1.size + W2.size <= 9223372036854775807 := by omega
    have Oo := hide hres
    clear hres s1 s2 e e1 e2 hol hsl hTk hx
    go_wp2_with fail
    refine (uh HC).mono ?_
    rintro e w2 ⟨rfl, ⟨v2, hT2, hn2⟩, Om⟩
    have HN2 : Hid (v2 = v ∨ ∀ k, v2.ownBlock = some k -> w.heap.size <= k) := by
     rcases hn2 with rfl | hn2
     . exact uh HNV
     . exact .inr (fun k hk => by have := hn2 k hk; have := hTu.size; omega)
    clear hn2
    have HT2 := hide hT2
    clear hT2 x0 x1
    go_wp2_with fail
    go_roundw
    case rel => exact ⟨k + 1, v2, by simp, by omega, by rw [uh Oo], uh HT2, hTu.trans Om, HN2⟩
    case measure => simp [intOf]; omega
  . have hlt' : ¬ (k : Int) < l.length := by omega
    have hkl : k = l.length := by omega
    rw [hkl, List.take_length] at hTk
    have hSk : bs (Lk.squeeze B L (l.take k)).1 = S := by rw [hkl, List.take_length]; exact uh HS
    generalize bs (Lk.squeeze B L (l.take k)).1 = S' at *
    subst hSk
    have HTk := hide hTk
    clear hTk
    go_wp2_with fail
    go_ret3
    exact ⟨rfl, ⟨v', uh HTk, uh HNV⟩, hTb.trans hTu⟩
open Go.RowKit
def RB (w : World) (b : Nat) (s : ByteArray) (p : Nat) (bad : Int) : Prop := Is w b 213 [.string s, .int .i64 p, .int .i64 bad]
theorem eU (b : Nat) (s : ByteArray) (p : Nat) (at' : Int) (w : World) (hI : RB w b s p (-1)) :
 Calls Tryz.prog 156 #[.pointer (some ⟨b, 0, none⟩), .int .i64 at'] w fun e w' => e = .returned (.tuple #[]) ∧ RB w' b s p at' ∧ Turns b w w' := by
 have c2 : w.cell? ⟨b, 2, none⟩ = some (.int .i64 (-1)) := hI.cell 2
 have f2 : w.frozen? ⟨b, 2, none⟩ = false := hI.free 2
 have HI := hide hI
 clear hI
 go_enter Tryz.func156, Tryz.ntmps156
 go_wp2_with fail
 go_end0
 exact ⟨rfl, (uh HI).set 2 _, (Turns.refl b w).set 2 _⟩
theorem Au (b : Nat) (s : ByteArray) (p q : Nat) (w : World) (hI : RB w b s p q) :
 Calls Tryz.prog 155 #[.pointer (some ⟨b, 0, none⟩)] w fun e w' => e = .returned (.int .i64 0) ∧ w' = w := by
 have c2 : w.cell? ⟨b, 2, none⟩ = some (.int .i64 q) := hI.cell 2
 have hq : (0 : Int) <= q := by omega
 clear hI
 go_enter Tryz.func155, Tryz.ntmps155
 go_wp2_with fail
 go_ret
 exact ⟨rfl, rfl⟩
theorem Dk (s : Lk.Bs) (p : Nat) : (∃ n q, Lk.kT s p = .ok n q ∧ (Lk.rd 0 0 (s.drop p)).val = n ∧ (Lk.rd 0 0 (s.drop p)).next p = q ∧ (Lk.rd 0 0 (s.drop p)).jQ p = -1 ∧ (Lk.rd 0 0 (s.drop p)).gq = false)
 ∨ (∃ q : Nat, Lk.kT s p = .bad q ∧ (Lk.rd 0 0 (s.drop p)).jQ p = q)
 ∨ (Lk.kT s p = .bad s.length ∧ (Lk.rd 0 0 (s.drop p)).jQ p = -1 ∧ (Lk.rd 0 0 (s.drop p)).gq = true) := by
 unfold Lk.kT
 cases Lk.rd 0 0 (s.drop p) with
 | ok n k => exact .inl ⟨n, p + k, rfl, rfl, rfl, rfl, rfl⟩
 | bad k => exact .inr (.inl ⟨p + k, rfl, rfl⟩)
 | short => exact .inr (.inr ⟨rfl, rfl, rfl⟩)
theorem GX {w wx : World} {T : TypeId} (hbx : Below ((w.drew).alloc (.cells #[.int .i64 0, .int .i64 0, .int .i64 0, .bool false] T)).heap.size ((w.drew).alloc (.cells #[.int .i64 0, .int .i64 0, .int .i64 0, .bool false] T)) wx) :
 wx.cell? ⟨w.heap.size, 0, none⟩ = some (.int .i64 0) ∧ wx.cell? ⟨w.heap.size, 1, none⟩ = some (.int .i64 0) ∧ wx.cell? ⟨w.heap.size, 2, none⟩ = some (.int .i64 0) ∧ wx.cell? ⟨w.heap.size, 3, none⟩ = some (.bool false) ∧
 wx.frozen? ⟨w.heap.size, 0, none⟩ = false ∧ wx.frozen? ⟨w.heap.size, 1, none⟩ = false ∧ wx.frozen? ⟨w.heap.size, 2, none⟩ = false ∧ wx.frozen? ⟨w.heap.size, 3, none⟩ = false := by
 have hI : Is wx w.heap.size T [.int .i64 0, .int .i64 0, .int .i64 0, .bool false] := (Is.new w.drew T [.int .i64 0, .int .i64 0, .int .i64 0, .bool false]).below hbx (by simp)
 exact ⟨hI.cell 0, hI.cell 1, hI.cell 2, hI.cell 3, hI.free 0, hI.free 1, hI.free 2, hI.free 3⟩
theorem JO {w wx : World} {a b c d : Value} {T : TypeId} (hbx : Below w.drew.heap.size w.drew wx) :
 ∃ F, Value.pointer (some ⟨wx.heap.size, 0, none⟩) = .pointer (some ⟨F, 0, none⟩) ∧ w.heap.size <= F ∧ Is (wx.alloc (.cells #[a, b, c, d] T)) F T [a, b, c, d] ∧ Below w.heap.size w (wx.alloc (.cells #[a, b, c, d] T)) := by
 have hb : Below w.heap.size w wx := bQ hbx
 exact ⟨_, rfl, hb.size, Is.new wx T [a, b, c, d], hb.alloc hb.size _⟩
theorem JP {w wx : World} {a b c d : Value} {T : TypeId} (hbx : Below ((w.drew).alloc (.cells #[.int .i64 0, .int .i64 0, .int .i64 0, .bool false] T)).heap.size ((w.drew).alloc (.cells #[.int .i64 0, .int .i64 0, .int .i64 0, .bool false] T)) wx) :
 ∃ F, Value.pointer (some ⟨w.heap.size, 0, none⟩) = .pointer (some ⟨F, 0, none⟩) ∧ w.heap.size <= F ∧ Is ((((wx.setCell ⟨w.heap.size, 0, none⟩ a).setCell ⟨w.heap.size, 1, none⟩ b).setCell ⟨w.heap.size, 2, none⟩ c).setCell ⟨w.heap.size, 3, none⟩ d) F T [a, b, c, d] ∧ Below w.heap.size w ((((wx.setCell ⟨w.heap.size, 0, none⟩ a).setCell ⟨w.heap.size, 1, none⟩ b).setCell ⟨w.heap.size, 2, none⟩ c).setCell ⟨w.heap.size, 3, none⟩ d) := by
 have hI : Is wx w.heap.size T [.int .i64 0, .int .i64 0, .int .i64 0, .bool false] := (Is.new w.drew T [.int .i64 0, .int .i64 0, .int .i64 0, .bool false]).below hbx (by simp)
 have hb : Below w.heap.size w wx := (((Below.refl w.heap.size w).drew).alloc (Nat.le_refl _) _).trans (hbx.mono (by simp))
 exact ⟨_, rfl, Nat.le_refl _, (((hI.set 0 a).set 1 b).set 2 c).set 3 d, (((hb.setCell (Nat.le_refl _) _).setCell (Nat.le_refl _) _).setCell (Nat.le_refl _) _).setCell (Nat.le_refl _) _⟩
theorem eX (b : Nat) (s : ByteArray) (p : Nat) (w : World) (hs : s.size <= 2 ^ 48) (hp : p <= s.size) (hI : RB w b s p (-1)) :
 Calls Tryz.prog 155 #[.pointer (some ⟨b, 0, none⟩)] w fun e w' =>
  (match Lk.kT s.data.toList p with
   | .ok n q => e = .returned (.int .i64 n) ∧ RB w' b s q (-1)
   | .bad q => e = .returned (.int .i64 0) ∧ RB w' b s p q) ∧ Turns b w w' := by
 have c0 : w.cell? ⟨b, 0, none⟩ = some (.string s) := hI.cell 0
 have c1 : w.cell? ⟨b, 1, none⟩ = some (.int .i64 p) := hI.cell 1
 have c2 : w.cell? ⟨b, 2, none⟩ = some (.int .i64 (-1)) := hI.cell 2
 have hbl := hI.lt
 have HI := hide hI
 have HC := hide (fun w => kz s p w (by omega) hp)
 have HF := hide (Dk s.data.toList p)
 clear hI
 generalize Lk.rd 0 0 (s.data.toList.drop p) = R at *
 generalize hnr : Lk.kT s.data.toList p = NR at *
 clear hnr
 go_enter Tryz.func155, Tryz.ntmps155
 go_wp2_with fail
 go_cut [3] (fun u wc => ∃ F, u = .pointer (some ⟨F, 0, none⟩) ∧ w.heap.size <= F ∧ Is wc F 187 [.int .i64 R.val, .int .i64 (R.next p), .int .i64 (R.jQ p), .bool R.gq] ∧ Below w.heap.size w wc)
 case first =>
  first | (go_region_with (go_at_call 84; refine (uh HC _).mono ?_; rintro e wx ⟨rfl, hbx⟩; (first | (have kk := GX hbx; obtain ⟨k0, k1, k2, k3, j0, j1, j2, j3⟩ := kk) | skip))) | fail
  all_goals
   go_wp2_with fail
   go_meet
   first
    | exact JP hbx
    | exact JO hbx
 obtain ⟨F, rfl, hF, hIF, hb2⟩ := hcut
 have hI2 : RB wc b s p (-1) := Is.below (uh HI) hb2 hbl
 have hTb := Below.turns hb2 b
 have hFb : b ≠ F := by omega
 have d0 : wc.cell? ⟨b, 0, none⟩ = some (.string s) := hI2.cell 0
 have d1 : wc.cell? ⟨b, 1, none⟩ = some (.int .i64 p) := hI2.cell 1
 have f1 : wc.frozen? ⟨b, 1, none⟩ = false := hI2.free 1
 have e0 : wc.cell? ⟨F, 0, none⟩ = some (.int .i64 R.val) := hIF.cell 0
 have e1 : wc.cell? ⟨F, 1, none⟩ = some (.int .i64 (R.next p)) := hIF.cell 1
 have e2 : wc.cell? ⟨F, 2, none⟩ = some (.int .i64 (R.jQ p)) := hIF.cell 2
 have e3 : wc.cell? ⟨F, 3, none⟩ = some (.bool R.gq) := hIF.cell 3
 have HI2 := hide hI2
 have HIF := hide hIF
 have HFB := hide hFb
 clear hI2 hIF c0 c1 c2
 rcases uh HF with ⟨n, q, rfl, h1, h2, h3, h4⟩ | ⟨q, rfl, h1⟩ | ⟨rfl, h1, h2⟩
 . rw [h1] at e0
   rw [h2] at e1
   rw [h3] at e2
   rw [h4] at e3
   have g0 : (wc.setCell ⟨b, 1, none⟩ (.int .i64 q)).cell? ⟨F, 0, none⟩ = some (.int .i64 n) := by
    have := (Is.other (uh HIF) ⟨b, 1, none⟩ (.int .i64 q) (Ne.symm (uh HFB))).cell 0
    rw [h1] at this
    exact this
   clear h1 h2 h3 h4
   go_wp2_with fail
   go_ret
   exact ⟨⟨rfl, (uh HI2).set 1 _⟩, hTb.set 1 _⟩
 . rw [h1] at e2
   have hq : (0 : Int) <= q := by omega
   clear h1
   go_wp2_with fail
   refine (eU b s p q _ (uh HI2)).mono ?_
   rintro e w3 ⟨rfl, hI3, hT3⟩
   go_wp2_with fail
   go_ret
   exact ⟨⟨rfl, hI3⟩, hTb.trans hT3⟩
 . rw [h1] at e2
   rw [h2] at e3
   clear h1 h2
   go_wp2_with fail
   refine (eU b s p s.size _ (uh HI2)).mono ?_
   rintro e w3 ⟨rfl, hI3, hT3⟩
   go_wp2_with fail
   go_ret
   exact ⟨⟨rfl, hI3⟩, hTb.trans hT3⟩
theorem oC (b : Nat) (T : TypeId) (s : ByteArray) (p n q : Nat) (more : List Value) (w : World) (hs : s.size <= maxLen) (hp : p <= s.size) (hI : Is w b T (.string s :: .int .i64 p :: more)) (hn : Lk.kT s.data.toList p = .ok n q) :
 Calls Tryz.prog 133 #[.pointer (some ⟨b, 0, none⟩)] w fun e w' => e = .returned (.tuple #[.int .i64 n, .bool true]) ∧ Is w' b T (.string s :: .int .i64 q :: more) ∧ Turns b w w' := by
 have := iZ b T s p more w hs hp hI
 unfold Lk.kT at hn
 cases e : Lk.rd 0 0 (s.data.toList.drop p) with
 | short => rw [e] at hn; cases hn
 | bad k => rw [e] at hn; cases hn
 | ok m k => rw [e] at hn this; cases hn; exact this
theorem ui (b : Nat) (T : TypeId) (s : ByteArray) (p q : Nat) (more : List Value) (w : World) (hs : s.size <= maxLen) (hp : p <= s.size) (hI : Is w b T (.string s :: .int .i64 p :: more)) (hn : Lk.kT s.data.toList p = .bad q) :
 Calls Tryz.prog 133 #[.pointer (some ⟨b, 0, none⟩)] w fun e w' => e = .returned (.tuple #[.int .i64 0, .bool false]) ∧ Is w' b T (.string s :: .int .i64 q :: more) ∧ Turns b w w' := by
 have := iZ b T s p more w hs hp hI
 unfold Lk.kT at hn
 cases e : Lk.rd 0 0 (s.data.toList.drop p) with
 | short => rw [e] at hn this; cases hn; rw [<- af]; exact this
 | bad k => rw [e] at hn this; cases hn; exact this
 | ok m k => rw [e] at hn; cases hn
def JQ : Lk.PR Lk.Bs -> Value
 | .ok t _ => .tuple #[.string (bs t), .bool true]
 | .bad _ => .tuple #[.string ⟨#[]⟩, .bool false]
theorem byte_at (s : ByteArray) (q j : Nat) (h : q + j < s.size) : (s.data.toList.drop q)[j]? = some s[q + j] := by
 rw [List.getElem?_drop, List.getElem?_eq_getElem (by rw [<- af]; exact h)]
 rfl
theorem rq (s : ByteArray) (q j : Nat) (h : s.size <= q + j) : (s.data.toList.drop q)[j]? = none := by
 rw [List.getElem?_drop, List.getElem?_eq_none (by rw [<- af]; exact h)]
theorem l7 (s : ByteArray) (q n : Nat) : s.extract q (q + n) = bs ((s.data.toList.drop q).take n) := by
 have e := dI s q (q + n)
 rw [show q + n - q = n by omega] at e
 unfold bs
 rw [<- e]
theorem Aw (b : Nat) (s : ByteArray) (p : Nat) (more : List Value) (w : World) (hs : s.size <= 2 ^ 48) (hp : p <= s.size) (R : Lk.PR Lk.Bs) (HR : Hid (Lk.bI true s.data.toList p = R))
 (hI : Is w b 208 (.string s :: .int .i64 p :: more)) :
 Calls Tryz.prog 187 #[.pointer (some ⟨b, 0, none⟩), jY] w fun e w' =>
  e = .returned (JQ R) ∧ Is w' b 208 (.string s :: .int .i64 (R.at : Nat) :: more) ∧ Turns b w w' := by
 have hsm : s.size <= maxLen := by unfold maxLen; omega
 have hI0 := hI.alloc (.cells #[.int .i64 1, .int .i64 16, .func (.func 127) #[] #[]] 182)
 have hX0 := Is.new w 182 [.int .i64 1, .int .i64 16, .func (.func 127) #[] #[]]
 have hT0 := (Turns.refl b w).alloc (.cells #[.int .i64 1, .int .i64 16, .func (.func 127) #[] #[]] 182)
 have hbl := hI.lt
 have P5 := hI0
 clear hI
 cases hn : Lk.kT s.data.toList p with
 | bad q =>
   have hR : R = .bad q := by rw [<- uh HR]; unfold Lk.bI; rw [hn]
   subst hR
   have HC := hide (ui b _ s p q more _ hsm hp hI0 hn)
   clear hn hI0 P5 hX0
   go_enter Tryz.func187, Tryz.ntmps187
   go_wp2_with fail
   refine (uh HC).mono ?_
   rintro e w1 ⟨rfl, hI1, hT1⟩
   go_wp2_with fail
   go_ret2
   exact ⟨rfl, hI1, hT0.trans hT1⟩
 | ok n q =>
   have hq := Lk.iq (by rw [<- af]; exact hp) hn
   rw [<- af] at hq
   have HC := hide (oC b _ s p n q more _ hsm hp hI0 hn)
   have HNR := hide hn
   clear hn hI0
   go_enter Tryz.func187, Tryz.ntmps187
   go_wp2_with fail
   refine (uh HC).mono ?_
   rintro e w1 ⟨rfl, hI1, hT1⟩
   have hT2 := hT0.trans hT1
   have hX1 := hX0.grown hT1 (fun e => hX0.ne P5 (nbq rfl) (by simpa using e))
   have c0 := hX1.cell 0
   have c1 := hX1.cell 1
   simp only [List.getElem?_cons_zero, List.getElem?_cons_succ] at c0 c1
   have hXl := hX1.lt
   have d1 := hI1.cell 1
   have f1 := hI1.free 1
   simp only [List.getElem?_cons_zero, List.getElem?_cons_succ] at d1
   clear hX0 P5 hT0 hT1 HC
   by_cases hl : 1 <= (n : Int) ∧ (n : Int) <= 16
   . go_wp2_with fail
     refine (gZ 1 16 _ _).mono ?_
     rintro e w2 ⟨rfl, hb2⟩
     have hl1 : 1 <= (n : Int) := hl.1
     have hl2 : (n : Int) <= 16 := hl.2
     have hI2 := hI1.below hb2 hI1.lt
     have hX2 := hX1.below hb2 hX1.lt
     have hT3 := hT2.below hb2
     have HTR := hide (show R = (if Lk.upto Lk.aG n (s.data.toList.drop q) = n then .ok ((s.data.toList.drop q).take n) (q + n) else .bad (q + Lk.upto Lk.aG n (s.data.toList.drop q))) by
      rw [<- uh HR]; unfold Lk.bI; rw [uh HNR]; simp only
      rw [if_pos]
      . rfl
      . simp only [Lk.jM, if_true, decide_eq_true_eq]
        omega)
     have d1 := hI2.cell 1
     simp only [List.getElem?_cons_zero, List.getElem?_cons_succ] at d1
     clear c0 c1 hI1 hX1 hT2 hb2 hl
     go_wp2_with fail
     go_loopw [40] (fun u wr => ∃ j : Nat, u = .int .i64 j ∧ j <= n ∧ q + j <= s.size ∧ Is wr b 208 (.string s :: .int .i64 ((q + j : Nat) : Int) :: more) ∧ Is wr w.heap.size 182 [.int .i64 1, .int .i64 16, .func (.func 127) #[] #[]] ∧ Hid (∀ i, i < j -> ∃ c, (s.data.toList.drop q)[i]? = some c ∧ Lk.aG c = true) ∧ Turns b w wr) (fun u _ => n - (intOf u).toNat)
     case atStart => exact ⟨0, rfl, by omega, by omega, hI2, hX2, fun i hi => by omega, hT3⟩
     case round =>
      obtain ⟨j, rfl, hj, hqj, hIr, hXr, HJ, hTr⟩ := hrel
      clear hI2 hX2 hT3 d1 f1
      have hbg : some w.heap.size ≠ some b := fun e => hXr.ne hIr (nbq rfl) (by simpa using e)
      by_cases hlt : j < n
      . have hlt' : (j : Int) < n := by omega
        by_cases hend : q + j < s.size
        . go_wp2_with fail
          refine (xN b _ s (q + j) more _ hsm hend hIr).mono ?_
          rintro e w3 ⟨rfl, hI3, hT3⟩
          have hX3 := hXr.grown hT3 hbg
          have hT4 := hTr.trans hT3
          have c2 := hX3.cell 2
          simp only [List.getElem?_cons_zero, List.getElem?_cons_succ] at c2
          have hXl := hX3.lt
          clear hIr hXr hTr hT3
          generalize hQ : Lk.aG s[q + j] = Q
          have HQ := hide hQ
          have HL := hide (show ∀ w, Calls Tryz.prog 127 #[.int .u8 s[q + j].toNat] w fun e w' => e = .returned (.bool Q) ∧ w' = w from fun w => by rw [<- hQ]; exact wM s[q + j] w)
          clear hQ
          go_wp2_with fail
          refine (uh HL _).mono ?_
          rintro e w4 ⟨rfl, rfl⟩
          have d1 := hI3.cell 1
          have f1 := hI3.free 1
          simp only [List.getElem?_cons_zero, List.getElem?_cons_succ] at d1
          cases Q
          . have hu := Lk.ik Lk.aG n j (s.data.toList.drop q) (by omega) (uh HJ) (.inr (.inr ⟨_, byte_at s q j hend, uh HQ⟩))
            have hR := uh HTR
            rw [hu, if_neg (by omega)] at hR
            subst hR
            have HI3 := hide hI3
            clear hI3
            go_wp2_with fail
            go_ret2
            refine ⟨rfl, ?_, hT4.set _ _⟩
            have := (uh HI3).set 1 (.int .i64 (((q + j : Nat) : Int)))
            first | exact this | done
          . go_wp2_with fail
            go_roundw
            case rel =>
             refine ⟨j + 1, by simp, by omega, by omega, hI3, hX3, fun i hi => ?_, hT4⟩
             rcases Nat.lt_succ_iff_lt_or_eq.1 hi with hi | rfl
             . exact uh HJ i hi
             . exact ⟨_, byte_at s q i hend, uh HQ⟩
            case measure => simp [intOf]; omega
        . have hu := Lk.ik Lk.aG n j (s.data.toList.drop q) (by omega) (uh HJ) (.inr (.inl (rq s q j (by omega))))
          have hR := uh HTR
          rw [hu, if_neg (by omega)] at hR
          subst hR
          go_wp2_with fail
          refine (I7 b _ s (q + j) more _ hsm (by omega) hIr).mono ?_
          rintro e w3 ⟨rfl, hI3, hT3⟩
          go_wp2_with fail
          go_ret2
          exact ⟨rfl, hI3, hTr.trans hT3⟩
      . have hlt' : ¬ (j : Int) < n := by omega
        have hjn : j = n := by omega
        subst hjn
        have hu := Lk.ik Lk.aG j j (s.data.toList.drop q) (by omega) (uh HJ) (.inl rfl)
        have hR := uh HTR
        rw [hu, if_pos rfl] at hR
        subst hR
        have d0 := hIr.cell 0
        have d1 := hIr.cell 1
        simp only [List.getElem?_cons_zero, List.getElem?_cons_succ] at d0 d1
        have hbr := hIr.lt
        have hi1 : (q : Int) <= ((q + j : Nat) : Int) := by omega
        have hi2 : ((q + j : Nat) : Int) <= s.size := by omega
        have hsx : (s.extract q (q + j)).size <= 1000 := by rw [ByteArray.size_extract]; omega
        go_wp2_with fail
        go_region_with (go_at_call 70; refine (clone_any (s.extract q (q + j)) _ hsx).mono ?_; rintro e wx ⟨rfl, hbx⟩)
        all_goals
         go_wp2_with fail
         go_ret2
         have Rx : Below wr.heap.size wr wx := ⟨hbx.os, hbx.tape, hbx.output, hbx.size, hbx.block⟩
         refine ⟨?_, hIr.below Rx hbr, hTr.below Rx⟩
         rw [JQ, <- l7]
         rfl
   . have hbad : R = .bad (q - 1) := by
      rw [<- uh HR]; unfold Lk.bI; rw [uh HNR]; simp only
      rw [if_neg]
      simp only [Lk.jM, if_true, decide_eq_true_eq]
      omega
     subst hbad
     go_wp2_with fail
     refine (gZ 1 16 _ _).mono ?_
     rintro e w2 ⟨rfl, hb2⟩
     have hd : decide (1 <= (n : Int) ∧ (n : Int) <= 16) = false := by simpa using hl
     have hI2 := hI1.below hb2 hI1.lt
     have d1 := hI2.cell 1
     have f1 := hI2.free 1
     simp only [List.getElem?_cons_zero, List.getElem?_cons_succ] at d1
     have HI2 := hide hI2
     clear hI1 hI2 c0 c1
     go_wp2_with fail
     go_ret2
     refine ⟨rfl, ?_, (hT2.below hb2).set _ _⟩
     have := (uh HI2).set 1 (.int .i64 ((q : Int) - 1))
     show Is _ _ _ (.string s :: .int .i64 ((q - 1 : Nat) : Int) :: more)
     rw [show ((q - 1 : Nat) : Int) = (q : Int) - 1 by omega]
     exact this
theorem yC (b : Nat) (s : ByteArray) (p : Nat) (more : List Value) (w : World) (hs : s.size <= 2 ^ 48) (hp : p <= s.size) (R : Lk.PR Lk.Bs) (HR : Hid (Lk.bI false s.data.toList p = R))
 (hI : Is w b 208 (.string s :: .int .i64 p :: more)) :
 Calls Tryz.prog 187 #[.pointer (some ⟨b, 0, none⟩), valueR] w fun e w' =>
  e = .returned (JQ R) ∧ Is w' b 208 (.string s :: .int .i64 (R.at : Nat) :: more) ∧ Turns b w w' := by
 have hsm : s.size <= maxLen := by unfold maxLen; omega
 have hI0 := hI.alloc (.cells #[.int .i64 0, .int .i64 32, .func (.func 129) #[] #[]] 182)
 have hX0 := Is.new w 182 [.int .i64 0, .int .i64 32, .func (.func 129) #[] #[]]
 have hT0 := (Turns.refl b w).alloc (.cells #[.int .i64 0, .int .i64 32, .func (.func 129) #[] #[]] 182)
 have hbl := hI.lt
 have P5 := hI0
 clear hI
 cases hn : Lk.kT s.data.toList p with
 | bad q =>
   have hR : R = .bad q := by rw [<- uh HR]; unfold Lk.bI; rw [hn]
   subst hR
   have HC := hide (ui b _ s p q more _ hsm hp hI0 hn)
   clear hn hI0 P5 hX0
   go_enter Tryz.func187, Tryz.ntmps187
   go_wp2_with fail
   refine (uh HC).mono ?_
   rintro e w1 ⟨rfl, hI1, hT1⟩
   go_wp2_with fail
   go_ret2
   exact ⟨rfl, hI1, hT0.trans hT1⟩
 | ok n q =>
   have hq := Lk.iq (by rw [<- af]; exact hp) hn
   rw [<- af] at hq
   have HC := hide (oC b _ s p n q more _ hsm hp hI0 hn)
   have HNR := hide hn
   clear hn hI0
   go_enter Tryz.func187, Tryz.ntmps187
   go_wp2_with fail
   refine (uh HC).mono ?_
   rintro e w1 ⟨rfl, hI1, hT1⟩
   have hT2 := hT0.trans hT1
   have hX1 := hX0.grown hT1 (fun e => hX0.ne P5 (nbq rfl) (by simpa using e))
   have c0 := hX1.cell 0
   have c1 := hX1.cell 1
   simp only [List.getElem?_cons_zero, List.getElem?_cons_succ] at c0 c1
   have hXl := hX1.lt
   have d1 := hI1.cell 1
   have f1 := hI1.free 1
   simp only [List.getElem?_cons_zero, List.getElem?_cons_succ] at d1
   clear hX0 P5 hT0 hT1 HC
   by_cases hl : 0 <= (n : Int) ∧ (n : Int) <= 32
   . go_wp2_with fail
     refine (gZ 0 32 _ _).mono ?_
     rintro e w2 ⟨rfl, hb2⟩
     have hl1 : 0 <= (n : Int) := hl.1
     have hl2 : (n : Int) <= 32 := hl.2
     have hI2 := hI1.below hb2 hI1.lt
     have hX2 := hX1.below hb2 hX1.lt
     have hT3 := hT2.below hb2
     have HTR := hide (show R = (if Lk.upto Lk.aB n (s.data.toList.drop q) = n then .ok ((s.data.toList.drop q).take n) (q + n) else .bad (q + Lk.upto Lk.aB n (s.data.toList.drop q))) by
      rw [<- uh HR]; unfold Lk.bI; rw [uh HNR]; simp only
      rw [if_pos]
      . rfl
      . simp only [Lk.jM, Bool.false_eq_true, if_false, decide_eq_true_eq]
        omega)
     have d1 := hI2.cell 1
     simp only [List.getElem?_cons_zero, List.getElem?_cons_succ] at d1
     clear c0 c1 hI1 hX1 hT2 hb2 hl
     go_wp2_with fail
     go_loopw [40] (fun u wr => ∃ j : Nat, u = .int .i64 j ∧ j <= n ∧ q + j <= s.size ∧ Is wr b 208 (.string s :: .int .i64 ((q + j : Nat) : Int) :: more) ∧ Is wr w.heap.size 182 [.int .i64 0, .int .i64 32, .func (.func 129) #[] #[]] ∧ Hid (∀ i, i < j -> ∃ c, (s.data.toList.drop q)[i]? = some c ∧ Lk.aB c = true) ∧ Turns b w wr) (fun u _ => n - (intOf u).toNat)
     case atStart => exact ⟨0, rfl, by omega, by omega, hI2, hX2, fun i hi => by omega, hT3⟩
     case round =>
      obtain ⟨j, rfl, hj, hqj, hIr, hXr, HJ, hTr⟩ := hrel
      clear hI2 hX2 hT3 d1 f1
      have hbg : some w.heap.size ≠ some b := fun e => hXr.ne hIr (nbq rfl) (by simpa using e)
      by_cases hlt : j < n
      . have hlt' : (j : Int) < n := by omega
        by_cases hend : q + j < s.size
        . go_wp2_with fail
          refine (xN b _ s (q + j) more _ hsm hend hIr).mono ?_
          rintro e w3 ⟨rfl, hI3, hT3⟩
          have hX3 := hXr.grown hT3 hbg
          have hT4 := hTr.trans hT3
          have c2 := hX3.cell 2
          simp only [List.getElem?_cons_zero, List.getElem?_cons_succ] at c2
          have hXl := hX3.lt
          clear hIr hXr hTr hT3
          generalize hQ : Lk.aB s[q + j] = Q
          have HQ := hide hQ
          have HL := hide (show ∀ w, Calls Tryz.prog 129 #[.int .u8 s[q + j].toNat] w fun e w' => e = .returned (.bool Q) ∧ w' = w from fun w => by rw [<- hQ]; exact tH s[q + j] w)
          clear hQ
          go_wp2_with fail
          refine (uh HL _).mono ?_
          rintro e w4 ⟨rfl, rfl⟩
          have d1 := hI3.cell 1
          have f1 := hI3.free 1
          simp only [List.getElem?_cons_zero, List.getElem?_cons_succ] at d1
          cases Q
          . have hu := Lk.ik Lk.aB n j (s.data.toList.drop q) (by omega) (uh HJ) (.inr (.inr ⟨_, byte_at s q j hend, uh HQ⟩))
            have hR := uh HTR
            rw [hu, if_neg (by omega)] at hR
            subst hR
            have HI3 := hide hI3
            clear hI3
            go_wp2_with fail
            go_ret2
            refine ⟨rfl, ?_, hT4.set _ _⟩
            have := (uh HI3).set 1 (.int .i64 (((q + j : Nat) : Int)))
            first | exact this | done
          . go_wp2_with fail
            go_roundw
            case rel =>
             refine ⟨j + 1, by simp, by omega, by omega, hI3, hX3, fun i hi => ?_, hT4⟩
             rcases Nat.lt_succ_iff_lt_or_eq.1 hi with hi | rfl
             . exact uh HJ i hi
             . exact ⟨_, byte_at s q i hend, uh HQ⟩
            case measure => simp [intOf]; omega
        . have hu := Lk.ik Lk.aB n j (s.data.toList.drop q) (by omega) (uh HJ) (.inr (.inl (rq s q j (by omega))))
          have hR := uh HTR
          rw [hu, if_neg (by omega)] at hR
          subst hR
          go_wp2_with fail
          refine (I7 b _ s (q + j) more _ hsm (by omega) hIr).mono ?_
          rintro e w3 ⟨rfl, hI3, hT3⟩
          go_wp2_with fail
          go_ret2
          exact ⟨rfl, hI3, hTr.trans hT3⟩
      . have hlt' : ¬ (j : Int) < n := by omega
        have hjn : j = n := by omega
        subst hjn
        have hu := Lk.ik Lk.aB j j (s.data.toList.drop q) (by omega) (uh HJ) (.inl rfl)
        have hR := uh HTR
        rw [hu, if_pos rfl] at hR
        subst hR
        have d0 := hIr.cell 0
        have d1 := hIr.cell 1
        simp only [List.getElem?_cons_zero, List.getElem?_cons_succ] at d0 d1
        have hbr := hIr.lt
        have hi1 : (q : Int) <= ((q + j : Nat) : Int) := by omega
        have hi2 : ((q + j : Nat) : Int) <= s.size := by omega
        have hsx : (s.extract q (q + j)).size <= 1000 := by rw [ByteArray.size_extract]; omega
        go_wp2_with fail
        go_region_with (go_at_call 70; refine (clone_any (s.extract q (q + j)) _ hsx).mono ?_; rintro e wx ⟨rfl, hbx⟩)
        all_goals
         go_wp2_with fail
         go_ret2
         have Rx : Below wr.heap.size wr wx := ⟨hbx.os, hbx.tape, hbx.output, hbx.size, hbx.block⟩
         refine ⟨?_, hIr.below Rx hbr, hTr.below Rx⟩
         rw [JQ, <- l7]
         rfl
   . have hbad : R = .bad (q - 1) := by
      rw [<- uh HR]; unfold Lk.bI; rw [uh HNR]; simp only
      rw [if_neg]
      simp only [Lk.jM, Bool.false_eq_true, if_false, decide_eq_true_eq]
      omega
     subst hbad
     go_wp2_with fail
     refine (gZ 0 32 _ _).mono ?_
     rintro e w2 ⟨rfl, hb2⟩
     have hd : decide ((n : Int) <= 32) = false := by simpa using hl
     have hI2 := hI1.below hb2 hI1.lt
     have d1 := hI2.cell 1
     have f1 := hI2.free 1
     simp only [List.getElem?_cons_zero, List.getElem?_cons_succ] at d1
     have HI2 := hide hI2
     clear hI1 hI2 c0 c1
     go_wp2_with fail
     go_ret2
     refine ⟨rfl, ?_, (hT2.below hb2).set _ _⟩
     have := (uh HI2).set 1 (.int .i64 ((q : Int) - 1))
     show Is _ _ _ (.string s :: .int .i64 ((q - 1 : Nat) : Int) :: more)
     rw [show ((q - 1 : Nat) : Int) = (q : Int) - 1 by omega]
     exact this
end Go.Proofs.YtbkpdapagfjmmaaGreatDoor
