import Derived.Test.YtbkpdapagfjmmaaGreatDoorA21
set_option linter.unusedVariables false
set_option maxRecDepth 100000
set_option maxHeartbeats 16000000
namespace Go.Proofs.YtbkpdapagfjmmaaGreatDoor
open Go.RowKit
variable {κ : Prop}
theorem Jw (a b : Lk.Bs) : bs a ++ bs b = bs (a ++ b) := by
 apply ByteArray.ext
 simp [bs]
theorem nY.tail {w : World} {v : Value} {x : Lk.Bs} {l : List Lk.Bs} (h : nY w v (x :: l)) : ∃ g off cap, v = .slice (some ⟨g, off, none⟩) (l.length + 1) cap ∧ g < w.heap.size ∧ l.length + 1 <= cap ∧ cap <= maxLen ∧ w.cell? ⟨g, off, none⟩ = some (.string (bs x)) ∧ nY w (.slice (if cap = 1 then some ⟨g, off, none⟩ else some ⟨g, off + 1, none⟩) l.length (cap - 1)) l := by
 obtain ⟨g, off, cap, h1, h2, h3, h4, h5, h6⟩ := h.head
 refine ⟨g, off, cap, h1, h2, h3, h4, h5, ?_⟩
 by_cases hc : cap = 1
 . rw [if_pos hc]
   have hl : l = [] := List.eq_nil_of_length_eq_zero (by omega)
   subst hl hc
   rcases h with ⟨h0, _⟩ | ⟨g', off', cap', cur, hv, hI, _, _, k3, _⟩
   . cases h0
   . rw [hv] at h1
     injection h1 with k1 k2 k4
     injection k1 with k1
     injection k1 with k1 k5
     subst k1 k5 k4
     exact .inr ⟨g', off', 0, cur, rfl, hI, Nat.le_refl _, Nat.zero_le _, by omega, fun i y hy => by simp at hy⟩
 . rw [if_neg hc]
   exact h6
theorem aT.popRow {w : World} {b : Nat} {e : Lk.En} {p : RP} {x : Lk.Bs} {l : List Lk.Bs} (h : aT κ w b e p) (hr : e.row = x :: l) : ∃ g off cap, p.rv = .slice (some ⟨g, off, none⟩) (l.length + 1) cap ∧ g < w.heap.size ∧ l.length + 1 <= cap ∧ cap <= maxLen ∧ w.cell? ⟨g, off, none⟩ = some (.string (bs x)) ∧ aj κ w b p { e with row := l } (w.setCell ⟨b, 5, none⟩ (.slice (if cap = 1 then some ⟨g, off, none⟩ else some ⟨g, off + 1, none⟩) l.length (cap - 1))) := by
 have hq := h.row
 rw [hr] at hq
 obtain ⟨g, off, cap, h1, h2, h3, h4, h5, h6⟩ := hq.tail
 exact ⟨g, off, cap, h1, h2, h3, h4, h5, h.pushRow h6 (.inl (by rw [h1]; split <;> rfl)) (Only.refl _ w)⟩
theorem Gq {e : Lk.En} {x : Lk.Bs} {l : List Lk.Bs} (hr : e.row = x :: l) : e.bG = some (x, { e with row := l }) := by unfold Lk.En.bG; rw [hr]
theorem Aa {e : Lk.En} (hr : e.row = []) (h : e.down ≠ 0 ∨ e.next = none) : e.bG = none := by
 unfold Lk.En.bG
 rw [hr]
 simp only
 split
 . rfl
 . rename_i hd
   rcases h with h | h
   . exact absurd h hd
   . rw [h]
theorem CO {e : Lk.En} {i : Nat} {o : Lk.Ow} (hr : e.row = []) (hd : e.down = 0) (hn : e.next = some i) (ho : e.own[i]? = some o) : e.bG = some (e.cu i o) := by
 unfold Lk.En.bG
 rw [hr]
 simp only
 rw [if_neg (by rw [hd]; simp), hn]
 simp only
 rw [ho]
def RDr (κ : Prop) (w0 : World) (b : Nat) (p0 : RP) (D : Lk.Bs × Lk.En) (m : Int) (s : Lk.Bs) (e : Lk.En) (w : World) : Prop :=
 aj κ w0 b p0 e w ∧ Lk.Wf e ∧ D.1 = s ++ (Lk.En.drain m.toNat e).1 ∧ D.2 = (Lk.En.drain m.toNat e).2
theorem RDr.stop {w0 w : World} {b : Nat} {p0 : RP} {D : Lk.Bs × Lk.En} {m : Int} {s : Lk.Bs} {e : Lk.En} (h : RDr κ w0 b p0 D m s e w) (hx : m <= 0 ∨ e.bG = none) : D = (s, e) := by
 obtain ⟨_, _, h1, h2⟩ := h
 have : Lk.En.drain m.toNat e = ([], e) := by
  rcases hx with hx | hx
  . have : m.toNat = 0 := by omega
    rw [this]
    rfl
  . cases m.toNat with
    | zero => rfl
    | succ n => rw [Lk.En.drain, hx]
 rw [this] at h1 h2
 simp at h1 h2
 exact Prod.ext h1 h2
theorem RDr.go {w0 w w' : World} {b : Nat} {p0 : RP} {D : Lk.Bs × Lk.En} {m : Int} {s x : Lk.Bs} {e e' : Lk.En} (h : RDr κ w0 b p0 D m s e w) (hm : 0 < m) (hx : e.bG = some (x, e')) (hP : aj κ w0 b p0 e' w') : RDr κ w0 b p0 D (m - 1) (s ++ x) e' w' ∧ s.length + x.length <= D.1.length := by
 obtain ⟨_, hw, h1, h2⟩ := h
 obtain ⟨n, hn⟩ : ∃ n, m.toNat = n + 1 := ⟨m.toNat - 1, by omega⟩
 have hn' : (m - 1).toNat = n := by omega
 rw [hn, Lk.En.drain, hx] at h1 h2
 simp only at h1 h2
 refine ⟨⟨hP, (hw.bG hx).1, by rw [hn', List.append_assoc]; exact h1, by rw [hn']; exact h2⟩, ?_⟩
 rw [h1]
 simp only [List.length_append]
 omega
theorem Gs (b : Nat) (e : Lk.En) (p : RP) (most : Int) (w : World) (h : aT κ w b e p) (hw : Lk.Wf e) (U7 : most <= 9223372036854775807) (TV : (Lk.En.drain most.toNat e).1.length <= 2 ^ 44) :
 Calls Tryz.prog 65 #[.pointer (some ⟨b, 0, none⟩), .int .i64 most] w fun r w' => r = .returned (.string (bs (Lk.En.drain most.toNat e).1)) ∧ aj κ w b p (Lk.En.drain most.toNat e).2 w' := by
 have HS : Hid (RDr κ w b p (Lk.En.drain most.toNat e) most [] e w) := ⟨aj.same h, hw, rfl, rfl⟩
 generalize Lk.En.drain most.toNat e = D at *
 clear h hw
 go_enter Tryz.func65, Tryz.ntmps65
 go_wp2_with fail
 go_loopw [1, 5] (fun u1 u5 wr => ∃ (m : Int) (s : Lk.Bs) (e1 : Lk.En), u1 = .int .i64 m ∧ u5 = .string (bs s) ∧ m <= 9223372036854775807 ∧ Hid (RDr κ w b p D m s e1 wr)) (fun u1 _ _ => (intOf u1).toNat)
 case atStart => exact ⟨most, [], e, rfl, rfl, U7, uh HS⟩
 case round =>
  clear HS
  obtain ⟨m, s, e1, rfl, rfl, hm, HR⟩ := hrel
  have hR := uh HR
  by_cases hm0 : 0 < m
  . obtain ⟨p1, h1, f1, o1⟩ := hR.1
    have hw1 := hR.2.1
    have c5 : wr.cell? ⟨b, 5, none⟩ = some p1.rv := h1.blk.cell 5
    have hbl := h1.blk.lt
    have z5 := h1.blk.free 5
    cases hr : e1.row with
    | cons x l =>
      obtain ⟨g, off, cap, k1, k2, k3, k4, k5, k6⟩ := h1.popRow hr
      obtain ⟨hR2, hlen⟩ := hR.go hm0 (Gq hr) (aj.trans f1 o1 k6)
      rw [k1] at c5
      have U8 := Jw s x
      have hsum : ¬ (bs s).size + (bs x).size > 9223372036854775807 := by rw [ax, ax]; omega
      have hl0 : (0 : Int) < (l.length : Int) + 1 := by omega
      have hcap1 : (1 : Int) <= cap := by omega
      have HR2 := hide hR2
      generalize hLL : l.length = L at *
      clear hR HR h1 f1 o1 hw1 hr k1 k6 hR2 hlen
      go_wp2_with fail
      go_roundw
      case rel => exact ⟨m - 1, _, _, rfl, rfl, by omega, uh HR2⟩
      case measure => simp [intOf]; omega
    | nil =>
      obtain ⟨ra, rc, hrf⟩ := h1.row.form
      rw [hr] at hrf
      rw [hrf] at c5
      have c13 : wr.cell? ⟨b, 13, none⟩ = some (.int .i64 (e1.down : Int)) := h1.blk.cell 13
      by_cases hd : e1.down = 0
      . have hd' := CJ hd
        have HT := hide (Ju b e1 p1 wr h1 hw1)
        cases hn : e1.next with
        | none =>
          have hD := hR.stop (.inr (Aa hr (.inr hn)))
          have HP := hide hR.1
          have HD := hide hD
          rw [hn] at HT
          generalize (e1.down : Int) = DN at *
          clear hR HR hD h1 f1 o1 hw1 hr hrf hd hn
          go_wp2_with fail
          refine (uh HT).mono ?_
          rintro r w2 ⟨rfl, hb2⟩
          have HB := hide hb2
          clear hb2
          simp only [ixO]
          go_wp2_with fail
          go_ret
          exact ⟨congrArg (fun z => Ending.returned (.string (bs z))) (congrArg Prod.fst (uh HD)).symm, by rw [congrArg Prod.snd (uh HD)]; exact aj.after (uh HP) (uh HB)⟩
        | some i =>
          obtain ⟨o, ho, hmay⟩ := Lk.lU hn
          have hd1 := CO hr hd hn ho
          have HBD := hide (fun W (hR : aT κ W b e1 p1) => Jv b e1 p1 i o W hR hw1 ho hmay)
          have HX := hide (⟨h1, f1, o1⟩ : _ ∧ _ ∧ _)
          have HGO := hide (fun w' hP => hR.go (w' := w') hm0 (x := (e1.cu i o).1) (e' := (e1.cu i o).2) hd1 hP)
          rw [hn] at HT
          generalize hBO : e1.cu i o = BO at *
          obtain ⟨bx, be⟩ := BO
          simp only at HBD HGO
          have hi0 : ¬ (i : Int) < 0 := by omega
          generalize (e1.down : Int) = DN at *
          clear hR HR h1 f1 o1 hw1 hr hrf hd hn ho hmay hd1 hBO
          go_wp2_with fail
          refine (uh HT).mono ?_
          rintro r w2 ⟨rfl, hb2⟩
          obtain ⟨h1, f1, o1⟩ := uh HX
          have HB2 := hide (uh HBD w2 (h1.below hb2))
          have HO2 := hide (⟨f1, o1.below hb2⟩ : _ ∧ _)
          clear h1 f1 o1 hb2
          simp only [ixO]
          go_wp2_with fail
          refine (uh HB2).mono ?_
          rintro r w3 ⟨rfl, hP⟩
          obtain ⟨f1, o2⟩ := uh HO2
          obtain ⟨hR2, hlen⟩ := uh HGO w3 (aj.trans f1 o2 hP)
          have HR2 := hide hR2
          have U8 := Jw s bx
          have hsum : ¬ (bs s).size + (bs bx).size > 9223372036854775807 := by rw [ax, ax]; omega
          clear hP f1 o2 hR2 hlen
          go_wp2_with fail
          go_roundw
          case rel => exact ⟨m - 1, _, _, rfl, rfl, by omega, uh HR2⟩
          case measure => simp [intOf]; omega
      . have hd' := zY hd
        have hD := hR.stop (.inr (Aa hr (.inl hd)))
        have HP := hide hR.1
        have HD := hide hD
        generalize (e1.down : Int) = DN at *
        clear hR HR hD h1 f1 o1 hw1 hr hrf hd
        go_wp2_with fail
        go_ret
        exact ⟨congrArg (fun z => Ending.returned (.string (bs z))) (congrArg Prod.fst (uh HD)).symm, by rw [congrArg Prod.snd (uh HD)]; exact uh HP⟩
  . have XV : ¬ (0 : Int) < m := by omega
    have hD := hR.stop (.inl (by omega))
    have HP := hide hR.1
    have HD := hide hD
    clear hR HR hD
    go_wp2_with fail
    go_ret
    exact ⟨congrArg (fun z => Ending.returned (.string (bs z))) (congrArg Prod.fst (uh HD)).symm, by rw [congrArg Prod.snd (uh HD)]; exact uh HP⟩
abbrev frV (f : Lk.Fr) : Value := .agg #[.int .i64 (f.k : Int), .int .i64 (f.st : Int), .string (bs f.d)]
theorem pq (N x y : Int) (z : Bool) (W : World) : (Instr.field 187 (.agg #[.int .i64 N, .int .i64 x, .int .i64 y, .bool z]) 0).run Tryz.prog W = .ok (.int .i64 N) W := by kernel_rfl
theorem xX (d : Lk.Bs) (w : World) (hd : d.length <= 64) : Calls Tryz.prog 84 #[.string (bs d), .int .i64 0] w fun r w' => ∃ (x y : Int) (z : Bool), r = .returned (.agg #[.int .i64 (Lk.numOf d : Int), .int .i64 x, .int .i64 y, .bool z]) ∧ Below w.heap.size w w' := by
 refine (lh (bs d) 0 0 w rfl (by rw [ax]; omega) (Nat.zero_le _)).mono ?_
 rintro r w' ⟨rfl, hb⟩
 have e : (bs d).data.toList = d := by simp [bs]
 have : (Lk.rd 0 0 d).val = (Lk.numOf d : Int) := by
  unfold Lk.numOf
  cases Lk.rd 0 0 d <;> rfl
 rw [List.drop_zero, e, this]
 exact ⟨_, _, _, rfl, hb⟩
theorem CP (b : Nat) (e : Lk.En) (p : RP) (f : Lk.Fr) (w : World) (h : aT κ w b e p) (hw : Lk.Wf e) (hd : f.d.length <= 64) :
 Calls Tryz.prog 183 #[.pointer (some ⟨b, 0, none⟩), frV f] w fun r w' => r = .returned (.int .i64 ((e.bU f).1 : Int)) ∧ aj κ w b p (e.bU f).2 w' := by
 have hfld := pq
 have XW := Lk.nP f.d
 have hal := hw.all
 have Gl := hw.wF
 have kQ := hide (fun W => xX f.d W hd)
 have HBX := hide (fun W1 (hb : Below (w.alloc (.cells #[.int .i64 (f.k : Int), .int .i64 (f.st : Int), .string (bs f.d)] 66)).heap.size (w.alloc (.cells #[.int .i64 (f.k : Int), .int .i64 (f.st : Int), .string (bs f.d)] 66)) W1) => ((Is.new w 66 [.int .i64 (f.k : Int), .int .i64 (f.st : Int), .string (bs f.d)]).below hb (by simp)).cell 1)
 have HE1 := hide (fun W1 (hb : Below (w.alloc (.cells #[.int .i64 (f.k : Int), .int .i64 (f.st : Int), .string (bs f.d)] 66)).heap.size (w.alloc (.cells #[.int .i64 (f.k : Int), .int .i64 (f.st : Int), .string (bs f.d)] 66)) W1) => (⟨(h.below ((Below.refl w.heap.size w).alloc (Nat.le_refl _) _)).below hb, ((Below.refl w.heap.size w).alloc (Nat.le_refl _) _).trans (hb.mono (by simp)), by have := hb.size; simp at this; omega⟩ : aT κ W1 b e p ∧ Below w.heap.size w W1 ∧ w.heap.size < W1.heap.size))
 unfold Lk.En.bU
 generalize hNN : Lk.numOf f.d = NN at *
 clear hNN
 by_cases hs : f.st = 0
 . rw [if_pos hs]
   have hs' : ((f.st : Int) == 0) = true := by rw [hs]; rfl
   by_cases hc : NN = 0 ∨ 100000 < e.all + NN
   . rw [if_pos hc]
     clear h hw hs
     go_enter Tryz.func183, Tryz.ntmps183
     go_wp2_with fail
     refine (uh kQ _).mono ?_
     rintro r w1 ⟨x, y, z, rfl, hb1⟩
     have b1 := uh HBX w1 hb1
     obtain ⟨h1, hbw, hlt⟩ := uh HE1 w1 hb1
     have c8 : w1.cell? ⟨b, 8, none⟩ = some (.int .i64 (e.all : Int)) := h1.blk.cell 8
     have hbl := h1.blk.lt
     have HF := hide (aj.before hbw (aj.same h1))
     simp only [List.getElem?_cons_zero, List.getElem?_cons_succ] at b1
     clear h1 hbw hb1
     by_cases hz : NN = 0
     . have hz' : ((NN : Int) == 0) = true := by rw [hz]; rfl
       clear hc hz
       go_wp2_with fail
       go_ret
       exact ⟨rfl, uh HF⟩
     . have hz' : ((NN : Int) == 0) = false := by simp; omega
       have hgt : (100000 : Int) < (e.all : Int) + NN := by omega
       have u1 : (e.all : Int) <= 100000 := by omega
       have u2 : (NN : Int) <= 268435455 := by omega
       have u3 : (0 : Int) <= (e.all : Int) := by omega
       have u4 : (0 : Int) <= (NN : Int) := by omega
       generalize (e.all : Int) = AL at *
       generalize (NN : Int) = N1 at *
       clear hc hz
       go_wp2_with fail
       go_ret
       exact ⟨rfl, uh HF⟩
   . rw [if_neg hc]
     have hz' : ((NN : Int) == 0) = false := by simp; omega
     clear h hw hs
     go_enter Tryz.func183, Tryz.ntmps183
     go_wp2_with fail
     refine (uh kQ _).mono ?_
     rintro r w1 ⟨x, y, z, rfl, hb1⟩
     have b1 := uh HBX w1 hb1
     obtain ⟨h1, hbw, hlt⟩ := uh HE1 w1 hb1
     have c8 : w1.cell? ⟨b, 8, none⟩ = some (.int .i64 (e.all : Int)) := h1.blk.cell 8
     have f8 := h1.blk.free 8
     have hbl := h1.blk.lt
     have hset := h1.set (e' := { e with all := e.all + NN }) 8 (.int .i64 ((e.all + NN : Nat) : Int)) rfl rfl rfl rfl rfl rfl (fun x => ⟨x, rfl⟩)
     have HF : Hid (aj κ w b p { e with all := e.all + NN } (w1.setCell ⟨b, 8, none⟩ (.int .i64 ((e.all + NN : Nat) : Int)))) := aj.before hbw ⟨p, hset, fun _ x => .inl x, (Only.refl _ w1).set b 8 _ (fun _ => .inl rfl)⟩
     have hle : ¬ (100000 : Int) < (e.all : Int) + NN := by omega
     have e1 : (e.all : Int) + NN = ((e.all + NN : Nat) : Int) := by omega
     have u1 : (e.all : Int) <= 100000 := by omega
     have u2 : (NN : Int) <= 268435455 := by omega
     have u3 : (0 : Int) <= (e.all : Int) := by omega
     have u4 : (0 : Int) <= (NN : Int) := by omega
     simp only [List.getElem?_cons_zero, List.getElem?_cons_succ] at b1
     generalize hAN : ((e.all + NN : Nat) : Int) = AN at *
     generalize (e.all : Int) = AL at *
     generalize (NN : Int) = N1 at *
     clear h1 hbw hb1 hset hc hAN
     go_wp2_with fail
     go_ret
     exact ⟨rfl, uh HF⟩
 . rw [if_neg hs]
   have hs' : ((f.st : Int) == 0) = false := by simp; omega
   have HOW := hide (fun W (hR : aT κ W b e p) => qY b e p (f.st : Int) W hR (by omega))
   cases hx : Lk.bK e.own (f.st : Int) with
   | none =>
     simp only [Option.bind_none]
     rw [hx] at HOW
     clear h hw hs hx
     go_enter Tryz.func183, Tryz.ntmps183
     go_wp2_with fail
     refine (uh kQ _).mono ?_
     rintro r w1 ⟨x, y, z, rfl, hb1⟩
     have b1 := uh HBX w1 hb1
     obtain ⟨h1, hbw, hlt⟩ := uh HE1 w1 hb1
     have HO1 := hide (uh HOW w1 h1)
     have HF := hide (aj.before hbw (aj.same h1))
     simp only [List.getElem?_cons_zero, List.getElem?_cons_succ] at b1
     clear h1 hbw hb1
     go_wp2_with fail
     refine (uh HO1).mono ?_
     rintro r w2 ⟨rfl, rfl⟩
     simp only [ixO]
     go_wp2_with fail
     go_ret
     exact ⟨rfl, uh HF⟩
   | some i =>
     obtain ⟨o, ho, hid⟩ := Lk.dR hx
     have hok := hw.own i o ho
     have hcr := hok.cr
     have hi : i < e.own.length := (List.getElem?_eq_some_iff.1 ho).1
     have hi' : (i : Int) < e.own.length := by omega
     have hi0 : ¬ (i : Int) < 0 := by omega
     simp only [Option.bind_some, ho, Option.map_some]
     rw [hx] at HOW
     have HAT := hide (fun W1 (hR : aT κ W1 b e p) => (⟨hR.ML ho, fun g cap hg => hR.kL (g := g) (cap := cap) ho hg 2 (.int .i64 ((o.cr + NN : Nat) : Int)) { o with cr := o.cr + NN } (by omega) rfl⟩ : _ ∧ _))
     cases hdn : o.done with
     | true =>
       rw [if_pos rfl]
       have HDN := hide hdn
       clear h hw hs hx hdn
       go_enter Tryz.func183, Tryz.ntmps183
       go_wp2_with fail
       refine (uh kQ _).mono ?_
       rintro r w1 ⟨x, y, z, rfl, hb1⟩
       have b1 := uh HBX w1 hb1
       obtain ⟨h1, hbw, hlt⟩ := uh HE1 w1 hb1
       have HO1 := hide (uh HOW w1 h1)
       have HF := hide (aj.before hbw (aj.same h1))
       obtain ⟨⟨g, cap, c6, hv, hgl, hcap, hbl, x0, x1, x2, x3, hfz, hgb⟩, _⟩ := uh HAT w1 h1
       rw [uh HDN] at x3
       simp only [List.getElem?_cons_zero, List.getElem?_cons_succ] at b1
       clear h1 hbw hb1 hv hfz
       go_wp2_with fail
       refine (uh HO1).mono ?_
       rintro r w2 ⟨rfl, rfl⟩
       simp only [ixO]
       go_wp2_with fail
       go_ret
       exact ⟨rfl, uh HF⟩
     | false =>
       rw [if_neg (by simp)]
       have HDN := hide hdn
       by_cases hc : NN = 0 ∨ 100000 < o.cr + NN
       . rw [if_pos hc]
         clear h hw hs hx hdn
         go_enter Tryz.func183, Tryz.ntmps183
         go_wp2_with fail
         refine (uh kQ _).mono ?_
         rintro r w1 ⟨x, y, z, rfl, hb1⟩
         have b1 := uh HBX w1 hb1
         obtain ⟨h1, hbw, hlt⟩ := uh HE1 w1 hb1
         have HO1 := hide (uh HOW w1 h1)
         have HF := hide (aj.before hbw (aj.same h1))
         obtain ⟨⟨g, cap, c6, hv, hgl, hcap, hbl, x0, x1, x2, x3, hfz, hgb⟩, _⟩ := uh HAT w1 h1
         rw [uh HDN] at x3
         simp only [List.getElem?_cons_zero, List.getElem?_cons_succ] at b1
         clear h1 hbw hb1 hv hfz
         go_wp2_with fail
         refine (uh HO1).mono ?_
         rintro r w2 ⟨rfl, rfl⟩
         simp only [ixO]
         by_cases hz : NN = 0
         . have hz' : ((NN : Int) == 0) = true := by rw [hz]; rfl
           clear hc hz
           go_wp2_with fail
           go_ret
           exact ⟨rfl, uh HF⟩
         . have hz' : ((NN : Int) == 0) = false := by simp; omega
           have hgt : (100000 : Int) < (o.cr : Int) + NN := by omega
           have u1 : (o.cr : Int) <= 100000 := by omega
           have u2 : (NN : Int) <= 268435455 := by omega
           have u3 : (0 : Int) <= (o.cr : Int) := by omega
           have u4 : (0 : Int) <= (NN : Int) := by omega
           generalize (o.cr : Int) = AL at *
           generalize (NN : Int) = N1 at *
           clear hc hz
           go_wp2_with fail
           go_ret
           exact ⟨rfl, uh HF⟩
       . rw [if_neg hc]
         have hz' : ((NN : Int) == 0) = false := by simp; omega
         clear h hw hs hx hdn
         go_enter Tryz.func183, Tryz.ntmps183
         go_wp2_with fail
         refine (uh kQ _).mono ?_
         rintro r w1 ⟨x, y, z, rfl, hb1⟩
         have b1 := uh HBX w1 hb1
         obtain ⟨h1, hbw, hlt⟩ := uh HE1 w1 hb1
         have HO1 := hide (uh HOW w1 h1)
         obtain ⟨⟨g, cap, c6, hv, hgl, hcap, hbl, x0, x1, x2, x3, hfz, hgb⟩, hset⟩ := uh HAT w1 h1
         obtain ⟨s1, t1⟩ := hset g cap hv
         have HF : Hid (aj κ w b p { e with own := e.own.set i { o with cr := o.cr + NN } } (w1.setCell ⟨g, i * 4 + 2, none⟩ (.int .i64 ((o.cr + NN : Nat) : Int)))) := aj.before hbw ⟨p, s1, fun _ x => .inl x, t1⟩
         rw [uh HDN] at x3
         have f2 := hfz (i * 4 + 2)
         have hle : ¬ (100000 : Int) < (o.cr : Int) + NN := by omega
         have hle2 : ((o.cr + NN : Nat) : Int) <= 100000 := by omega
         have e1 : (o.cr : Int) + NN = ((o.cr + NN : Nat) : Int) := by omega
         have u1 : (o.cr : Int) <= 100000 := by omega
         have u2 : (NN : Int) <= 268435455 := by omega
         have u3 : (0 : Int) <= (o.cr : Int) := by omega
         have u4 : (0 : Int) <= (NN : Int) := by omega
         simp only [List.getElem?_cons_zero, List.getElem?_cons_succ] at b1
         generalize hAN : ((o.cr + NN : Nat) : Int) = AN at *
         generalize (o.cr : Int) = AL at *
         generalize (NN : Int) = N1 at *
         clear h1 hbw hb1 hv hfz hset s1 t1 hc hAN HAT
         go_wp2_with fail
         refine (uh HO1).mono ?_
         rintro r w2 ⟨rfl, rfl⟩
         simp only [ixO]
         go_wp2_with fail
         go_region
         go_wp2_with fail
         go_ret
         have hF := uh HF
         rw [uh HDN] at hF
         exact ⟨rfl, aj.after hF ⟨rfl, rfl, rfl, Nat.le_refl _, fun _ _ => rfl⟩⟩
end Go.Proofs.YtbkpdapagfjmmaaGreatDoor
