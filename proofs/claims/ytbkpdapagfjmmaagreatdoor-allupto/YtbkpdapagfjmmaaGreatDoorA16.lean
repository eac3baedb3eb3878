import Derived.Test.YtbkpdapagfjmmaaGreatDoorA15
import Derived.Deep.CutBlock
set_option linter.unusedVariables false
set_option maxRecDepth 100000
set_option maxHeartbeats 16000000
namespace Go.Proofs.YtbkpdapagfjmmaaGreatDoor
open Go.RowKit
variable {κ : Prop}
abbrev frV (f : Lk.Fr) : Value := .agg #[.int .i64 (f.k : Int), .int .i64 (f.st : Int), .string (bs f.d)]
theorem pq (N x y : Int) (z : Bool) (W : World) : (Instr.field 187 (.agg #[.int .i64 N, .int .i64 x, .int .i64 y, .bool z]) 0).run Tryz.prog W = .ok (.int .i64 N) W := by kernel_rfl
theorem xX (d : Lk.Bs) (w : World) (hd : d.length <= 64) : Calls Tryz.prog 84 #[.string (bs d), .int .i64 0] w fun r w' => ∃ (x y : Int) (z : Bool), r = .returned (.agg #[.int .i64 (Lk.numOf d : Int), .int .i64 x, .int .i64 y, .bool z]) ∧ Below w.heap.size w w' := by
 refine (lh (bs d) 0 0 w rfl (by rw [ax]; omega) (Nat.zero_le _)).mono ?_
 rintro r w' ⟨rfl, hb⟩
 have e : (bs d).data.toList = d := by simp [bs]
 have : (Lk.rd 0 0 d).val = (Lk.numOf d : Int) := by
  unfold Lk.numOf
  cases Lk.rd 0 0 d <;> rfl
 rw [List.drop_zero, e, this]
 exact ⟨_, _, _, rfl, hb⟩
theorem CP (b : Nat) (e : Lk.En) (p : RP) (f : Lk.Fr) (w : World) (h : aT κ w b e p) (hw : Lk.Wf e) (hd : f.d.length <= 64) :
 Calls Tryz.prog 183 #[.pointer (some ⟨b, 0, none⟩), frV f] w fun r w' => r = .returned (.int .i64 ((e.bU f).1 : Int)) ∧ aj κ w b p (e.bU f).2 w' := by
 have hfld := pq
 have XW := Lk.nP f.d
 have hal := hw.all
 have Gl := hw.wF
 have kQ := hide (fun W => xX f.d W hd)
 have HBX := hide (fun W1 (hb : Below (w.alloc (.cells #[.int .i64 (f.k : Int), .int .i64 (f.st : Int), .string (bs f.d)] 66)).heap.size (w.alloc (.cells #[.int .i64 (f.k : Int), .int .i64 (f.st : Int), .string (bs f.d)] 66)) W1) => ((Is.new w 66 [.int .i64 (f.k : Int), .int .i64 (f.st : Int), .string (bs f.d)]).below hb (by simp)).cell 1)
 have HE1 := hide (fun W1 (hb : Below (w.alloc (.cells #[.int .i64 (f.k : Int), .int .i64 (f.st : Int), .string (bs f.d)] 66)).heap.size (w.alloc (.cells #[.int .i64 (f.k : Int), .int .i64 (f.st : Int), .string (bs f.d)] 66)) W1) => (⟨(h.below ((Below.refl w.heap.size w).alloc (Nat.le_refl _) _)).below hb, ((Below.refl w.heap.size w).alloc (Nat.le_refl _) _).trans (hb.mono (by simp)), by have := hb.size; simp at this; omega⟩ : aT κ W1 b e p ∧ Below w.heap.size w W1 ∧ w.heap.size < W1.heap.size))
 unfold Lk.En.bU
 generalize hNN : Lk.numOf f.d = NN at *
 clear hNN
 by_cases hs : f.st = 0
 . rw [if_pos hs]
   have hs' : ((f.st : Int) == 0) = true := by rw [hs]; rfl
   by_cases hc : NN = 0 ∨ 100000 < e.all + NN
   . rw [if_pos hc]
     clear h hw hs
     go_enter Tryz.func183, Tryz.ntmps183
     go_wp2_with fail
     refine (uh kQ _).mono ?_
     rintro r w1 ⟨x, y, z, rfl, hb1⟩
     have b1 := uh HBX w1 hb1
     obtain ⟨h1, hbw, hlt⟩ := uh HE1 w1 hb1
     have c8 : w1.cell? ⟨b, 8, none⟩ = some (.int .i64 (e.all : Int)) := h1.blk.cell 8
     have hbl := h1.blk.lt
     have HF := hide (aj.before hbw (aj.same h1))
     simp only [List.getElem?_cons_zero, List.getElem?_cons_succ] at b1
     clear h1 hbw hb1
     by_cases hz : NN = 0
     . have hz' : ((NN : Int) == 0) = true := by rw [hz]; rfl
       clear hc hz
       go_wp2_with fail
       go_ret
       exact ⟨rfl, uh HF⟩
     . have hz' : ((NN : Int) == 0) = false := by simp; omega
       have hgt : (100000 : Int) < (e.all : Int) + NN := by omega
       have u1 : (e.all : Int) <= 100000 := by omega
       have u2 : (NN : Int) <= 268435455 := by omega
       have u3 : (0 : Int) <= (e.all : Int) := by omega
       have u4 : (0 : Int) <= (NN : Int) := by omega
       generalize (e.all : Int) = AL at *
       generalize (NN : Int) = N1 at *
       clear hc hz
       go_wp2_with fail
       go_ret
       exact ⟨rfl, uh HF⟩
   . rw [if_neg hc]
     have hz' : ((NN : Int) == 0) = false := by simp; omega
     clear h hw hs
     go_enter Tryz.func183, Tryz.ntmps183
     go_wp2_with fail
     refine (uh kQ _).mono ?_
     rintro r w1 ⟨x, y, z, rfl, hb1⟩
     have b1 := uh HBX w1 hb1
     obtain ⟨h1, hbw, hlt⟩ := uh HE1 w1 hb1
     have c8 : w1.cell? ⟨b, 8, none⟩ = some (.int .i64 (e.all : Int)) := h1.blk.cell 8
     have f8 := h1.blk.free 8
     have hbl := h1.blk.lt
     have hset := h1.set (e' := { e with all := e.all + NN }) 8 (.int .i64 ((e.all + NN : Nat) : Int)) rfl rfl rfl rfl rfl rfl (fun x => ⟨x, rfl⟩)
     have HF : Hid (aj κ w b p { e with all := e.all + NN } (w1.setCell ⟨b, 8, none⟩ (.int .i64 ((e.all + NN : Nat) : Int)))) := aj.before hbw ⟨p, hset, fun _ x => .inl x, (Only.refl _ w1).set b 8 _ (fun _ => .inl rfl)⟩
     have hle : ¬ (100000 : Int) < (e.all : Int) + NN := by omega
     have e1 : (e.all : Int) + NN = ((e.all + NN : Nat) : Int) := by omega
     have u1 : (e.all : Int) <= 100000 := by omega
     have u2 : (NN : Int) <= 268435455 := by omega
     have u3 : (0 : Int) <= (e.all : Int) := by omega
     have u4 : (0 : Int) <= (NN : Int) := by omega
     simp only [List.getElem?_cons_zero, List.getElem?_cons_succ] at b1
     generalize hAN : ((e.all + NN : Nat) : Int) = AN at *
     generalize (e.all : Int) = AL at *
     generalize (NN : Int) = N1 at *
     clear h1 hbw hb1 hset hc hAN
     go_wp2_with fail
     go_ret
     exact ⟨rfl, uh HF⟩
 . rw [if_neg hs]
   have hs' : ((f.st : Int) == 0) = false := by simp; omega
   have HOW := hide (fun W (hR : aT κ W b e p) => qY b e p (f.st : Int) W hR (by omega))
   cases hx : Lk.bK e.own (f.st : Int) with
   | none =>
     simp only [Option.bind_none]
     rw [hx] at HOW
     clear h hw hs hx
     go_enter Tryz.func183, Tryz.ntmps183
     go_wp2_with fail
     refine (uh kQ _).mono ?_
     rintro r w1 ⟨x, y, z, rfl, hb1⟩
     have b1 := uh HBX w1 hb1
     obtain ⟨h1, hbw, hlt⟩ := uh HE1 w1 hb1
     have HO1 := hide (uh HOW w1 h1)
     have HF := hide (aj.before hbw (aj.same h1))
     simp only [List.getElem?_cons_zero, List.getElem?_cons_succ] at b1
     clear h1 hbw hb1
     go_wp2_with fail
     refine (uh HO1).mono ?_
     rintro r w2 ⟨rfl, rfl⟩
     simp only [ixO]
     go_wp2_with fail
     go_ret
     exact ⟨rfl, uh HF⟩
   | some i =>
     obtain ⟨o, ho, hid⟩ := Lk.dR hx
     have hok := hw.own i o ho
     have hcr := hok.cr
     have hi : i < e.own.length := (List.getElem?_eq_some_iff.1 ho).1
     have hi' : (i : Int) < e.own.length := by omega
     have hi0 : ¬ (i : Int) < 0 := by omega
     simp only [Option.bind_some, ho, Option.map_some]
     rw [hx] at HOW
     have HAT := hide (fun W1 (hR : aT κ W1 b e p) => (⟨hR.ML ho, fun g cap hg => hR.kL (g := g) (cap := cap) ho hg 2 (.int .i64 ((o.cr + NN : Nat) : Int)) { o with cr := o.cr + NN } (by omega) rfl⟩ : _ ∧ _))
     cases hdn : o.done with
     | true =>
       rw [if_pos rfl]
       have HDN := hide hdn
       clear h hw hs hx hdn
       go_enter Tryz.func183, Tryz.ntmps183
       go_wp2_with fail
       refine (uh kQ _).mono ?_
       rintro r w1 ⟨x, y, z, rfl, hb1⟩
       have b1 := uh HBX w1 hb1
       obtain ⟨h1, hbw, hlt⟩ := uh HE1 w1 hb1
       have HO1 := hide (uh HOW w1 h1)
       have HF := hide (aj.before hbw (aj.same h1))
       obtain ⟨⟨g, cap, c6, hv, hgl, hcap, hbl, x0, x1, x2, x3, hfz, hgb⟩, _⟩ := uh HAT w1 h1
       rw [uh HDN] at x3
       simp only [List.getElem?_cons_zero, List.getElem?_cons_succ] at b1
       clear h1 hbw hb1 hv hfz
       go_wp2_with fail
       refine (uh HO1).mono ?_
       rintro r w2 ⟨rfl, rfl⟩
       simp only [ixO]
       go_wp2_with fail
       go_ret
       exact ⟨rfl, uh HF⟩
     | false =>
       rw [if_neg (by simp)]
       have HDN := hide hdn
       by_cases hc : NN = 0 ∨ 100000 < o.cr + NN
       . rw [if_pos hc]
         clear h hw hs hx hdn
         go_enter Tryz.func183, Tryz.ntmps183
         go_wp2_with fail
         refine (uh kQ _).mono ?_
         rintro r w1 ⟨x, y, z, rfl, hb1⟩
         have b1 := uh HBX w1 hb1
         obtain ⟨h1, hbw, hlt⟩ := uh HE1 w1 hb1
         have HO1 := hide (uh HOW w1 h1)
         have HF := hide (aj.before hbw (aj.same h1))
         obtain ⟨⟨g, cap, c6, hv, hgl, hcap, hbl, x0, x1, x2, x3, hfz, hgb⟩, _⟩ := uh HAT w1 h1
         rw [uh HDN] at x3
         simp only [List.getElem?_cons_zero, List.getElem?_cons_succ] at b1
         clear h1 hbw hb1 hv hfz
         go_wp2_with fail
         refine (uh HO1).mono ?_
         rintro r w2 ⟨rfl, rfl⟩
         simp only [ixO]
         by_cases hz : NN = 0
         . have hz' : ((NN : Int) == 0) = true := by rw [hz]; rfl
           clear hc hz
           go_wp2_with fail
           go_ret
           exact ⟨rfl, uh HF⟩
         . have hz' : ((NN : Int) == 0) = false := by simp; omega
           have hgt : (100000 : Int) < (o.cr : Int) + NN := by omega
           have u1 : (o.cr : Int) <= 100000 := by omega
           have u2 : (NN : Int) <= 268435455 := by omega
           have u3 : (0 : Int) <= (o.cr : Int) := by omega
           have u4 : (0 : Int) <= (NN : Int) := by omega
           generalize (o.cr : Int) = AL at *
           generalize (NN : Int) = N1 at *
           clear hc hz
           go_wp2_with fail
           go_ret
           exact ⟨rfl, uh HF⟩
       . rw [if_neg hc]
         have hz' : ((NN : Int) == 0) = false := by simp; omega
         clear h hw hs hx hdn
         go_enter Tryz.func183, Tryz.ntmps183
         go_wp2_with fail
         refine (uh kQ _).mono ?_
         rintro r w1 ⟨x, y, z, rfl, hb1⟩
         have b1 := uh HBX w1 hb1
         obtain ⟨h1, hbw, hlt⟩ := uh HE1 w1 hb1
         have HO1 := hide (uh HOW w1 h1)
         obtain ⟨⟨g, cap, c6, hv, hgl, hcap, hbl, x0, x1, x2, x3, hfz, hgb⟩, hset⟩ := uh HAT w1 h1
         obtain ⟨s1, t1⟩ := hset g cap hv
         have HF : Hid (aj κ w b p { e with own := e.own.set i { o with cr := o.cr + NN } } (w1.setCell ⟨g, i * 4 + 2, none⟩ (.int .i64 ((o.cr + NN : Nat) : Int)))) := aj.before hbw ⟨p, s1, fun _ x => .inl x, t1⟩
         rw [uh HDN] at x3
         have f2 := hfz (i * 4 + 2)
         have hle : ¬ (100000 : Int) < (o.cr : Int) + NN := by omega
         have hle2 : ((o.cr + NN : Nat) : Int) <= 100000 := by omega
         have e1 : (o.cr : Int) + NN = ((o.cr + NN : Nat) : Int) := by omega
         have u1 : (o.cr : Int) <= 100000 := by omega
         have u2 : (NN : Int) <= 268435455 := by omega
         have u3 : (0 : Int) <= (o.cr : Int) := by omega
         have u4 : (0 : Int) <= (NN : Int) := by omega
         simp only [List.getElem?_cons_zero, List.getElem?_cons_succ] at b1
         generalize hAN : ((o.cr + NN : Nat) : Int) = AN at *
         generalize (o.cr : Int) = AL at *
         generalize (NN : Int) = N1 at *
         clear h1 hbw hb1 hv hfz hset s1 t1 hc hAN HAT
         go_wp2_with fail
         refine (uh HO1).mono ?_
         rintro r w2 ⟨rfl, rfl⟩
         simp only [ixO]
         go_wp2_with fail
         go_region
         go_wp2_with fail
         go_ret
         have hF := uh HF
         rw [uh HDN] at hF
         exact ⟨rfl, aj.after hF ⟨rfl, rfl, rfl, Nat.le_refl _, fun _ _ => rfl⟩⟩
theorem CQ (w : World) (B : Nat) (v : Value) (n : Nat) (h : w.ownsRow B 5 1 v (Lk.wire n).length (bytesV (Lk.wire n))) : (convert 78 9 v).run Tryz.prog w = .ok (.string (bs (Lk.wire n))) w := jE h (Lk.dw n)
theorem dS (k st : Int) (n : Nat) (z : Int) (hz : z = n) (h : n <= 268435455) (w : World) : Calls Tryz.prog 115 #[.int .i64 k, .int .i64 st, .int .i64 z] w fun e w' => e = .returned (.agg #[.int .i64 k, .int .i64 st, .string (bs (Lk.wire n))]) ∧ Below w.heap.size w w' := by
 subst hz
 have HX := hide (Is.new w 79 [.int .i64 0, .int .i64 0, .string ⟨#[]⟩])
 have HB := hide ((Below.refl w.heap.size w).alloc (Nat.le_refl _) (.cells #[.int .i64 0, .int .i64 0, .string ⟨#[]⟩] 79))
 go_enter Tryz.func115, Tryz.ntmps115
 go_wp2_with fail
 refine (fP (w.heap.size + 1) (.slice none 0 0) [] n h _ (by simp) (World.ownsRow_nil _ _ _ _) (by simp)).mono ?_
 rintro e w1 ⟨v1, rfl, ho1, hb1, hk1⟩
 rw [List.nil_append] at ho1
 have hcv := CQ w1 _ v1 n ho1
 have hX1 := (uh HX).below hb1 (by omega)
 have hbel := (uh HB).trans (hb1.mono (by omega))
 have n0 := hX1.cell 0
 have n1 := hX1.cell 1
 have n2 := hX1.cell 2
 have g0 := hX1.free 0
 have g1 := hX1.free 1
 have g2 := hX1.free 2
 have hl := hX1.lt
 simp only [List.getElem?_cons_zero, List.getElem?_cons_succ] at n0 n1 n2
 clear hb1 hX1 ho1 hk1
 go_wp2_with fail
 exact bodyPost_ret (v := .agg #[.int .i64 k, .int .i64 st, .string (bs (Lk.wire n))]) (by simp [results, Tryz.results115, go_sem, n0, n1, n2]) rfl ⟨rfl, ((hbel.setCell (by simp) _).setCell (by simp) _).setCell (by simp) _⟩
theorem Gt (d : Lk.Bs) : (Lk.rd 0 0 d).val = (Lk.numOf d : Int) := by
 unfold Lk.numOf
 cases Lk.rd 0 0 d <;> rfl
theorem jq (f : Lk.Fr) (w : World) (hd : f.d.length <= 1000) : Calls Tryz.prog 143 #[frA f] w fun e w' => e = .returned (.int .i64 (Lk.numOf f.d : Int)) ∧ Below w.heap.size w w' := by
 have hs : (bs f.d).size <= maxLen := by rw [ax]; unfold maxLen; omega
 have hb0 := (Below.refl w.heap.size w).alloc (Nat.le_refl _) (.cells #[.int .i64 (f.k : Int), .int .i64 (f.st : Int), .string (bs f.d)] 79)
 have hb1 := hb0.alloc (by simp) (.cells #[.string (bs f.d), .int .i64 0] 83)
 have HB := hide hb1
 clear hb0 hb1
 have hI := Is.new (w.alloc (.cells #[.int .i64 (f.k : Int), .int .i64 (f.st : Int), .string (bs f.d)] 79)) 83 [.string (bs f.d), .int .i64 0]
 rw [World.size_alloc] at hI
 have HC := hide (iZ (w.heap.size + 1) 83 (bs f.d) 0 [] _ hs (Nat.zero_le _) hI)
 clear hI
 go_enter Tryz.func143, Tryz.ntmps143
 go_wp2_with fail
 refine (uh HC).mono ?_
 rintro e w1 ⟨rfl, hI1, hT1⟩
 have hl : ((bs f.d).data.toList.drop 0) = f.d := by simp [bs]
 rw [hl, Gt]
 have hbel : Below w.heap.size w w1 := Turns.toBelow (uh HB) hT1 (by omega) (by simp; omega)
 clear hI1 hT1 hl
 go_wp2_with fail
 go_ret
 exact ⟨rfl, hbel⟩
theorem Gu (b : Nat) (n : Int) (w : World) (_hb : b < w.heap.size) (c : w.cell? ⟨b, 15, none⟩ = some (.int .i64 n)) (hn : 0 <= n) (hn2 : n <= 2 ^ 40) : Calls Tryz.prog 121 #[.pointer (some ⟨b, 11, none⟩)] w fun e w' => e = .returned (.int .i64 (max (n - 2) 0)) ∧ w' = w := by
 have hmax := Lu Tryz.prog w #[3, 3] 3 (n - 2) 0
 go_enter Tryz.func121, Tryz.ntmps121
 go_wp2_with fail
 go_ret
 exact ⟨rfl, rfl⟩
theorem bJ (b : Nat) (n : Int) (w : World) (_hb : b < w.heap.size) (c : w.cell? ⟨b, 2, none⟩ = some (.int .i64 n)) : Calls Tryz.prog 42 #[.pointer (some ⟨b, 0, none⟩)] w fun e w' => e = .returned (.bool (n != 0)) ∧ w' = w := by
 go_enter Tryz.func42, Tryz.ntmps42
 go_wp2_with fail
 go_ret
 exact ⟨rfl, rfl⟩
theorem Rw.drew {w : World} {b : Nat} {c : EC} {fs : List Lk.Fr} (h : Rw w b c fs) : Rw w.drew b c fs := h.only ((Only.refl (fun _ => False) w).drew) (fun h => h) (fun _ _ h => h)
theorem Rw.below {w w' : World} {b : Nat} {c : EC} {fs : List Lk.Fr} (h : Rw w b c fs) (hb : Below w.heap.size w w') : Rw w' b c fs := h.only (Only.of_below hb (fun _ => False)) (fun h => h) (fun _ _ h => h)
theorem Rw.EH {w w' : World} {b : Nat} {c : EC} {fs : List Lk.Fr} (h : Rw w b c fs) (hb : Below w.drew.heap.size w.drew w') : Rw w' b c fs := h.below ⟨hb.os, hb.tape, hb.output, hb.size, hb.block⟩
def bf (w : World) (b : Nat) (d : PD) (e' : Lk.En) (w' : World) : Prop := ∃ d', Live w' b e' d' ∧ (∀ i, foot b d' i -> foot b d i ∨ w.heap.size <= i) ∧ Only (foot b d) w w'
theorem bf.same {w : World} {b : Nat} {e : Lk.En} {d : PD} (h : Live w b e d) : bf w b d e w := ⟨d, h, fun _ hi => .inl hi, Only.refl _ _⟩
theorem iV {w : World} {rs : List Nat} {n : Nat} (hn : w.heap.size <= n) : ∀ x ∈ rs ++ [n], x ∈ rs ∨ w.heap.size <= x := by
 intro x hx
 rcases List.mem_append.1 hx with h | h
 . exact .inl h
 . simp at h; subst h; exact .inr hn
theorem Live.put {w w' : World} {b n : Nat} {e : Lk.En} {d : PD} {k st : Nat} {dt : Lk.Bs} (h : Live w b e d) (hR : Rw w' b { fH e d with rs := d.rs ++ [n] } (d.fs ++ [⟨k, st, dt⟩])) (hn : w.heap.size <= n) (hO : Only (fun i => i = b ∨ i ∈ d.rs) w w') (hg : Lk.Good k st dt) (hk : k ≠ 1 ∧ k ≠ 2 := by omega) :
 bf w b d (e.send k st dt) w' := by
 refine ⟨_, h.I5 hR hO (rs' := d.rs ++ [n]) rfl rfl rfl rfl rfl ?_ ?_ (h.wf.send hg hk) (iV hn)⟩
 . show e.row ++ [Lk.packed k st dt] = _
   rw [h.o9]
   simp [Lk.Fr.pack]
 . intro f hf
   rcases List.mem_append.1 hf with hf | hf
   . exact h.good f hf
   . simp at hf
     subst hf
     exact hg
theorem MQ (b : Nat) (e : Lk.En) (d : PD) (t : Lk.Bs) (w : World) (hL : Live w b e d) (hdn : e.down = 0) (ht : t.length = 8) :
 Calls Tryz.prog 33 #[.pointer (some ⟨b, 0, none⟩), .string (bs t)] w fun r w' => r = .returned (.int .i64 0) ∧ bf w b d (e.send 5 0 t) w' := by
 have hR := hL.rw
 have hbl := hR.lt
 have c2 : w.cell? ⟨b, 2, none⟩ = some (.int .i64 0) := hL.c2 hdn
 clear hdn
 have hts : ((bs t).size : Int) = 8 := by rw [ax, ht]; rfl
 have HL := hide hL
 clear hL
 go_enter Tryz.func33, Tryz.ntmps33
 go_wp2_with fail
 refine (bJ b 0 w hbl c2).mono ?_
 rintro r w1 ⟨rfl, rfl⟩
 go_wp2_with fail
 go_cut [] (fun wc => bf w1 b d (e.send 5 0 t) wc)
 case first =>
  go_region_with (first
   | (go_at_call 70; refine (clone_any (bs t) _ (by omega)).mono ?_; rintro r w2 ⟨rfl, hb2⟩)
   | (go_at_call 45; refine (fC b (fH e d) d.fs ⟨5, 0, t⟩ _ (hR.EH hb2)).mono ?_; rintro r w3 ⟨rfl, n, hn, hR3, hO3⟩))
  all_goals
   go_wp2_with fail
   go_meet
   have hb2' : Below w1.heap.size w1 w2 := ⟨hb2.os, hb2.tape, hb2.output, hb2.size, hb2.block⟩
   have hsz := hb2'.size
   exact (uh HL).put hR3 (by omega) ((Only.of_below hb2' _).trans hO3 (fun i hi _ => hi)) (Lk.iY 5 t (by omega) ht)
 case rest =>
  go_wp2_with fail
  go_ret
  exact ⟨rfl, hcut⟩
theorem MR (b : Nat) (e : Lk.En) (d : PD) (t : ByteArray) (w : World) (hL : Live w b e d) (hdn : e.down = 0) (ht : t.size ≠ 8) :
 Calls Tryz.prog 33 #[.pointer (some ⟨b, 0, none⟩), .string t] w fun r w' => r = .returned (.int .i64 6) ∧ w' = w := by
 have hbl := hL.rw.lt
 have c2 : w.cell? ⟨b, 2, none⟩ = some (.int .i64 0) := hL.c2 hdn
 clear hdn
 have hts : ((t.size : Int) != 8) = true := by rw [bne_iff_ne]; omega
 clear hL ht
 go_enter Tryz.func33, Tryz.ntmps33
 go_wp2_with fail
 refine (bJ b 0 w hbl c2).mono ?_
 rintro r w1 ⟨rfl, rfl⟩
 go_wp2_with fail
 go_ret
 exact ⟨rfl, rfl⟩
theorem MS (b : Nat) (e : Lk.En) (d : PD) (t : ByteArray) (w : World) (hL : Live w b e d) (hdn : e.down = 0) :
 Calls Tryz.prog 33 #[.pointer (some ⟨b, 0, none⟩), .string t] w fun r w' => r = .returned (.int .i64 ((e.iy t.data.toList).1 : Int)) ∧ bf w b d (e.iy t.data.toList).2 w' := by
 have hl := af t
 unfold Lk.En.iy
 rw [if_neg (by rw [hdn]; simp)]
 by_cases ht : t.size = 8
 . rw [if_neg (by omega)]
   have e1 : t = bs t.data.toList := by simp [bs]
   have := MQ b e d t.data.toList w hL hdn (by omega)
   rw [<- e1] at this
   exact this
 . rw [if_pos (by omega)]
   refine (MR b e d t w hL hdn ht).mono ?_
   rintro r w' ⟨rfl, rfl⟩
   exact ⟨rfl, bf.same hL⟩
theorem sZ (b n : Nat) (c : EC) (fs : List Lk.Fr) (w : World) (hR : Rw w b c fs) (hn : c.su = (n : Int)) (hn2 : n <= 268435457) :
 Calls Tryz.prog 71 #[.pointer (some ⟨b, 0, none⟩)] w fun r w' => r = .returned (.tuple #[]) ∧ ∃ m, w.heap.size <= m ∧ Rw w' b { c with bs := true, rs := c.rs ++ [m] } (fs ++ [⟨7, 0, Lk.wire (n - 2)⟩]) ∧ Only (fun i => i = b ∨ i ∈ c.rs) w w' := by
 have hbl := hR.lt
 have c20 : w.cell? ⟨b, 20, none⟩ = some (.bool c.bs) := hR.blk.cell 20
 have f20 := hR.blk.free 20
 have hI1 : Is (w.setCell ⟨b, 20, none⟩ (.bool true)) b 101 ({ c with bs := true } : EC).cells := hR.blk.set 20 (.bool true)
 have hO1 : Only (· = b) w (w.setCell ⟨b, 20, none⟩ (.bool true)) := (Only.refl _ w).set b 20 _ (fun _ => rfl)
 have hR1 : Rw (w.setCell ⟨b, 20, none⟩ (.bool true)) b { c with bs := true } fs := hR.cell hI1 hO1 rfl
 have c15 : (w.setCell ⟨b, 20, none⟩ (.bool true)).cell? ⟨b, 15, none⟩ = some (.int .i64 c.su) := hR1.blk.cell 15
 rw [hn] at c15
 have hmx : (max ((n : Int) - 2) 0) = ((n - 2 : Nat) : Int) := by omega
 have HMX := hide hmx
 have HR1 := hide hR1
 have HO1 := hide hO1
 clear hR hI1 hO1 hmx
 go_enter Tryz.func71, Tryz.ntmps71
 go_wp2_with fail
 go_region_with (first
  | (go_at_call 121; refine (Gu b n (w.setCell ⟨b, 20, none⟩ (.bool true)).drew (by simpa using hbl) c15 (by omega) (by omega)).mono ?_; rw [uh HMX]; rintro r w2 ⟨rfl, rfl⟩)
  | (go_at_call 115; refine (dS 7 0 (n - 2) _ rfl (by omega) _).mono ?_; rintro r w3 ⟨rfl, hb3⟩)
  | (go_at_call 45; refine (fC b { c with bs := true } fs ⟨7, 0, Lk.wire (n - 2)⟩ _ ((uh HR1).EH hb3)).mono ?_; rintro r w4 ⟨rfl, m, hm, hR4, hO4⟩))
 all_goals
  go_wp2_with fail
  go_end0
  have hsz : w.heap.size <= w3.heap.size := by simpa using hb3.size
  refine ⟨rfl, m, by omega, hR4, ?_⟩
  have h1 : Only (fun i => i = b ∨ i ∈ c.rs) w (w.setCell ⟨b, 20, none⟩ (.bool true)) := (uh HO1).mono (fun i hi => .inl hi)
  exact (h1.below (bQ hb3)).trans hO4 (fun i hi _ => hi)
theorem wH {e : Lk.En} (h : Lk.Wf e) : e.bT = ah e - 2 := by
 unfold Lk.En.bT ah
 have hs := h.side
 cases hl : e.oth.getLast? with
 | none =>
   have : e.oth = [] := List.getLast?_eq_none_iff.1 hl
   simp [this] <;> omega
 | some o =>
   rw [List.getLast?_eq_getElem?] at hl
   have := (h.oth _ o hl).id
   have hlt := (List.getElem?_eq_some_iff.1 hl).1
   simp only
   omega
theorem lY {e : Lk.En} (h : Lk.Wf e) : ah e <= 268435457 := by
 unfold ah
 have hs := h.side
 rcases Nat.eq_zero_or_pos e.oth.length with h0 | h0
 . omega
 . have hl : e.oth[e.oth.length - 1]? = some (e.oth[e.oth.length - 1]'(by omega)) := List.getElem?_eq_getElem (by omega)
   have h1 := (h.oth _ _ hl).id
   have h2 := (h.oth _ _ hl).oL
   omega
theorem Rk (b : Nat) (e : Lk.En) (d : PD) (w : World) (hL : Live w b e d) (hdn : e.down = 0) (hb : e.iH = true) :
 Calls Tryz.prog 34 #[.pointer (some ⟨b, 0, none⟩)] w fun r w' => r = .returned (.int .i64 12) ∧ w' = w := by
 have hbl := hL.rw.lt
 have c2 : w.cell? ⟨b, 2, none⟩ = some (.int .i64 0) := hL.c2 hdn
 clear hdn
 have c20 : w.cell? ⟨b, 20, none⟩ = some (.bool e.iH) := hL.rw.blk.cell 20
 rw [hb] at c20
 clear hL hb
 go_enter Tryz.func34, Tryz.ntmps34
 go_wp2_with fail
 refine (bJ b 0 w hbl c2).mono ?_
 rintro r w1 ⟨rfl, rfl⟩
 go_wp2_with fail
 go_ret
 exact ⟨rfl, rfl⟩
theorem PH (b : Nat) (e : Lk.En) (d : PD) (w : World) (hL : Live w b e d) (hdn : e.down = 0) (hb : e.iH = false) :
 Calls Tryz.prog 34 #[.pointer (some ⟨b, 0, none⟩)] w fun r w' => r = .returned (.int .i64 0) ∧ bf w b d e.bye w' := by
 have hbl := hL.rw.lt
 have c2 : w.cell? ⟨b, 2, none⟩ = some (.int .i64 0) := hL.c2 hdn
 clear hdn
 have c20 : w.cell? ⟨b, 20, none⟩ = some (.bool e.iH) := hL.rw.blk.cell 20
 rw [hb] at c20
 have HC := hide (sZ b (ah e) (fH e d) d.fs w hL.rw rfl (lY hL.wf))
 have HL := hide hL
 clear hL hb
 go_enter Tryz.func34, Tryz.ntmps34
 go_wp2_with fail
 refine (bJ b 0 w hbl c2).mono ?_
 rintro r w1 ⟨rfl, rfl⟩
 go_wp2_with fail
 refine (uh HC).mono ?_
 rintro r w2 ⟨rfl, m, hm, hR, hO⟩
 go_wp2_with fail
 go_ret
 refine ⟨rfl, ?_⟩
 have hL := uh HL
 have hg := Lk.qU (ah e - 2) (by have := lY hL.wf; omega)
 refine ⟨_, hL.I5 hR hO (e' := e.bye) (rs' := d.rs ++ [m]) rfl rfl rfl rfl rfl ?_ ?_ hL.wf.bye (iV hm)⟩
 . show e.row ++ [Lk.packed 7 0 (Lk.wire e.bT)] = _
   rw [hL.o9, wH hL.wf]
   simp [Lk.Fr.pack]
 . intro f hf
   rcases List.mem_append.1 hf with hf | hf
   . exact hL.good f hf
   . simp at hf
     subst hf
     exact hg
theorem PI (b : Nat) (e : Lk.En) (d : PD) (w : World) (hL : Live w b e d) (hdn : e.down = 0) :
 Calls Tryz.prog 34 #[.pointer (some ⟨b, 0, none⟩)] w fun r w' => r = .returned (.int .i64 (e.iC.1 : Int)) ∧ bf w b d e.iC.2 w' := by
 unfold Lk.En.iC
 rw [if_neg (by rw [hdn]; simp)]
 cases hb : e.iH with
 | true =>
   rw [if_pos rfl]
   refine (Rk b e d w hL hdn hb).mono ?_
   rintro r w' ⟨rfl, rfl⟩
   exact ⟨rfl, bf.same hL⟩
 | false =>
   rw [if_neg (by simp)]
   exact PH b e d w hL hdn hb
open Go.Maps (Keyed)
theorem CS : Keyed Tryz.prog 3 := Maps.int_keyed Tryz.underlying3
def I64 (k : Int) : Prop := -9223372036854775808 <= k ∧ k <= 9223372036854775807
theorem CU {k : Int} (h : I64 k) : keyOf Tryz.prog 3 (.int .i64 k) = some (.int .i64 k) := Maps.keyOf_int_mk Tryz.underlying3 (WalkArith.wf_i64 h)
theorem PK (w : World) : (zeroValue 224).run Tryz.prog w = .ok (.pointer none) w := by kernel_rfl
theorem look_in {w : World} {mb mn : Nat} {ins : Int -> Option Nat} (h : bW Tryz.prog 3 w mb mn ins) {k : Int} (hk : I64 k) :
 (Instr.lookup 94 (.map (some mb)) (.int .i64 k) true).run Tryz.prog w = .ok (.tuple #[bu (ins k), .bool (ins k).isSome]) w ∧ (Instr.lookup 94 (.map (some mb)) (.int .i64 k) false).run Tryz.prog w = .ok (bu (ins k)) w :=
 h.look CS Tryz.underlying94 (PK w) k (CU hk)
theorem nC (b mb mn : Nat) (ins : Int -> Option Nat) (k : Int) (w : World) (_hb : b < w.heap.size) (c : w.cell? ⟨b, 17, none⟩ = some (.map (some mb))) (hM : bW Tryz.prog 3 w mb mn ins) (hk : I64 k) (hp : ins k = none) :
 Calls Tryz.prog 117 #[.pointer (some ⟨b, 11, none⟩), .int .i64 k] w fun e w' => e = .returned (.tuple #[.pointer none, .bool false]) ∧ ∃ n, w' = w.drewN n := by
 have hl := (look_in hM hk).1
 rw [hp] at hl
 simp only [bu, Option.isSome] at hl
 clear hM hp hk
 go_enter Tryz.func117, Tryz.ntmps117
 go_wp2_with fail
 go_quiet (fail)
 go_wp2_with fail
 go_ret2
 exact ⟨rfl, _, rfl⟩
theorem jr (b mb mn p : Nat) (ins : Int -> Option Nat) (k cr held : Int) (cut ended : Bool) (w : World) (_hb : b < w.heap.size) (c : w.cell? ⟨b, 17, none⟩ = some (.map (some mb))) (hM : bW Tryz.prog 3 w mb mn ins) (hk : I64 k) (hp : ins k = some p) (hI : Is w p 227 (inV cr held cut ended)) :
 Calls Tryz.prog 117 #[.pointer (some ⟨b, 11, none⟩), .int .i64 k] w fun e w' => e = .returned (.tuple #[.pointer (some ⟨p, 0, none⟩), .bool (!ended)]) ∧ ∃ n, w' = w.drewN n := by
 have hl := (look_in hM hk).1
 rw [hp] at hl
 simp only [bu, ptr, Option.isSome] at hl
 have c3 := hI.cell 3
 simp only [inV, List.getElem?_cons_zero, List.getElem?_cons_succ] at c3
 have hpl := hI.lt
 clear hM hp hk hI
 go_enter Tryz.func117, Tryz.ntmps117
 go_wp2_with fail
 go_quiet (fail)
 go_wp2_with fail
 go_ret2
 exact ⟨rfl, _, rfl⟩
theorem open_any (p : Nat) (cr held : Int) (cut ended : Bool) (w : World) (hI : Is w p 227 (inV cr held cut ended)) :
 Calls Tryz.prog 118 #[.pointer (some ⟨p, 0, none⟩)] w fun e w' => e = .returned (.bool (!cut && !ended)) ∧ w' = w := by
 have c2 := hI.cell 2
 have c3 := hI.cell 3
 simp only [inV, List.getElem?_cons_zero, List.getElem?_cons_succ] at c2 c3
 have hpl := hI.lt
 clear hI
 cases cut with
 | true =>
   go_enter Tryz.func118, Tryz.ntmps118
   go_wp2_with fail
   go_ret
   exact ⟨rfl, rfl⟩
 | false =>
   go_enter Tryz.func118, Tryz.ntmps118
   go_wp2_with fail
   go_ret
   exact ⟨by first | rfl | simp, rfl⟩
theorem tq (b mb mn p : Nat) (ins : Int -> Option Nat) (k cr : Int) (held : Nat) (cut ended : Bool) (w : World) (_hb : b < w.heap.size) (c : w.cell? ⟨b, 17, none⟩ = some (.map (some mb))) (hM : bW Tryz.prog 3 w mb mn ins) (hk : I64 k) (hp : ins k = some p) (hI : Is w p 227 (inV cr held cut ended)) (hn : ended = false ∨ 0 < held) :
 Calls Tryz.prog 116 #[.pointer (some ⟨b, 11, none⟩), .int .i64 k] w fun e w' => e = .returned (.tuple #[]) ∧ w' = w := by
 have hl := (look_in hM hk).2
 rw [hp] at hl
 simp only [bu, ptr] at hl
 have c1 := hI.cell 1
 have c3 := hI.cell 3
 simp only [inV, List.getElem?_cons_zero, List.getElem?_cons_succ] at c1 c3
 have hpl := hI.lt
 clear hM hp hk hI
 cases ended with
 | false =>
   go_enter Tryz.func116, Tryz.ntmps116
   go_wp2_with fail
   go_end0
   exact ⟨rfl, rfl⟩
 | true =>
   have h0 : ((held : Int) == 0) = false := by rw [beq_eq_false_iff_ne]; rcases hn with h | h; cases h; omega
   clear hn
   go_enter Tryz.func116, Tryz.ntmps116
   go_wp2_with fail
   go_end0
   exact ⟨rfl, rfl⟩
theorem wI (b mb mn p : Nat) (ins : Int -> Option Nat) (k cr : Int) (cut : Bool) (w : World) (_hb : b < w.heap.size) (c : w.cell? ⟨b, 17, none⟩ = some (.map (some mb))) (hM : bW Tryz.prog 3 w mb mn ins) (hk : I64 k) (hp : ins k = some p) (hI : Is w p 227 (inV cr 0 cut true)) :
 Calls Tryz.prog 116 #[.pointer (some ⟨b, 11, none⟩), .int .i64 k] w fun e w' => e = .returned (.tuple #[]) ∧ bW Tryz.prog 3 w' mb mn (fun x => if x = k then none else ins x) ∧ Only (· = mb) w w' := by
 have hl := (look_in hM hk).2
 rw [hp] at hl
 simp only [bu, ptr] at hl
 have c1 := hI.cell 1
 have c3 := hI.cell 3
 simp only [inV, List.getElem?_cons_zero, List.getElem?_cons_succ] at c1 c3
 have hpl := hI.lt
 obtain ⟨w', hdel, hM', hO'⟩ := hM.del CS Tryz.underlying94 k (CU hk) 0
 have HM := hide hM'
 have HO := hide hO'
 clear hM hp hk hI hM' hO'
 go_enter Tryz.func116, Tryz.ntmps116
 go_wp2_with fail
 go_end0
 exact ⟨rfl, uh HM, uh HO⟩
end Go.Proofs.YtbkpdapagfjmmaaGreatDoor
