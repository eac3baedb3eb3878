/-
  Walks: bytes that come cut at some places.
-/
import Derived.Test.YtbkpdapagfjmmaaG1
import Derived.Deep.CutBlock
import Derived.Test.YtbkpdapagfjmmaaSpec4
namespace Go.Proofs.Ytbkpdapagfjmmaa
open Go.RowKit

/-- What has been fed so far: the first so many bytes. -/
structure FedTo (L : Lk.Bs) (last : Nat) (fs : List Lk.Fr) (er : Int) (s : ByteArray) : Prop where
  frames : (Lk.all (L.take last)).1 = fs
  err : ((Lk.all (L.take last)).2.1 : Int) = er
  rest : er = 0 → s.data.toList = (Lk.all (L.take last)).2.2 ∧ s.size ≤ 72

theorem FedTo.start (L : Lk.Bs) : FedTo L 0 [] 0 ⟨#[]⟩ := by
  have e : Lk.all (L.take 0) = ([], 0, []) := Lk.all_nil
  exact ⟨by rw [e], by rw [e]; rfl, fun _ => ⟨by rw [e], Nat.zero_le 72⟩⟩

theorem FedTo.step {L : Lk.Bs} {last next : Nat} {fs : List Lk.Fr} {er : Int} {s s' : ByteArray} {p : Lk.Bs} (h : FedTo L last fs er s) (hp : L.take next = L.take last ++ p)
    (hs' : Lk.fedErr s.data.toList er p = 0 → s'.data.toList = Lk.fedRest s.data.toList er p ∧ s'.size ≤ 72) :
    FedTo L next (fs ++ Lk.fedFrames s.data.toList er p) (Lk.fedErr s.data.toList er p) s' := by
  obtain ⟨h1, h2, h3⟩ := h
  have e := Lk.all_append (L.take last) p
  rw [← hp] at e
  unfold Lk.fedErr Lk.fedRest at hs'
  unfold Lk.fedErr Lk.fedFrames
  by_cases h0 : er = 0
  · have hz : (Lk.all (L.take last)).2.1 = 0 := by omega
    obtain ⟨h4, _⟩ := h3 h0
    rw [if_pos hz, ← h4] at e
    rw [if_pos h0, if_pos h0] at hs'
    rw [if_pos h0, if_pos h0]
    exact ⟨by rw [e, h1], by rw [e], fun hh => by rw [e]; exact hs' hh⟩
  · have hz : ¬ (Lk.all (L.take last)).2.1 = 0 := by omega
    rw [if_neg hz] at e
    rw [if_neg h0, if_neg h0] at hs'
    rw [if_neg h0, if_neg h0]
    exact ⟨by rw [e, h1]; simp, by rw [e, h2], fun hh => absurd hh h0⟩

theorem take_piece (b : ByteArray) (i j : Nat) (h : i ≤ j) : b.data.toList.take j = b.data.toList.take i ++ (b.extract i j).data.toList := by
  rw [extract_list]
  have := List.take_add (l := b.data.toList) (i := i) (j := j - i)
  rw [show i + (j - i) = j from by omega] at this
  exact this

theorem fed_err_stays {l : Lk.Bs} {e : Int} {p : Lk.Bs} (h : e ≠ 0) : Lk.fedFrames l e p = [] ∧ Lk.fedErr l e p = e := by
  unfold Lk.fedFrames Lk.fedErr
  rw [if_neg h, if_neg h]
  exact ⟨rfl, rfl⟩

/-- The frames from q on lie in a row as they were told. -/
def Told (cs : List Value) (fs : List Lk.Fr) (q : Nat) : Prop := fs.length * 3 ≤ cs.length ∧ ∀ i, q ≤ i → ∀ h : i < fs.length, cs[i * 3]? = some (.int .i64 (fs[i].k : Int)) ∧ cs[i * 3 + 1]? = some (.int .i64 (fs[i].st : Int)) ∧ cs[i * 3 + 2]? = some (.string ⟨fs[i].d.toArray⟩)

theorem Told.start {cs : List Value} {fs : List Lk.Fr} (h : cs.take (fs.length * 3) = framesV fs) : Told cs fs 0 := by
  have hl := framesV_len fs
  have hl2 := congrArg List.length h
  rw [hl, List.length_take] at hl2
  refine ⟨by omega, fun i _ hi => ?_⟩
  have e := framesV_at fs i hi
  rw [← h, List.getElem?_take_of_lt (by omega), List.getElem?_take_of_lt (by omega), List.getElem?_take_of_lt (by omega)] at e
  exact e

theorem Told.spoil {cs : List Value} {fs : List Lk.Fr} {q : Nat} (h : Told cs fs q) (x y z : Value) : Told (((cs.set (q * 3) x).set (q * 3 + 1) y).set (q * 3 + 2) z) fs (q + 1) := by
  refine ⟨by simpa using h.1, fun i hq hi => ?_⟩
  have e := h.2 i (by omega) hi
  rw [List.getElem?_set_ne (by omega), List.getElem?_set_ne (by omega), List.getElem?_set_ne (by omega), List.getElem?_set_ne (by omega), List.getElem?_set_ne (by omega), List.getElem?_set_ne (by omega), List.getElem?_set_ne (by omega), List.getElem?_set_ne (by omega), List.getElem?_set_ne (by omega)]
  exact e

set_option maxHeartbeats 1000000 in
set_option maxRecDepth 100000 in
theorem fed_look (b : ByteArray) (cb coff clen ccap : Nat) (z : Nat → Int) (w : World) (hb : b.size ≤ 2 ^ 30) (hcl : clen ≤ 2 ^ 30) (hcb : cb < w.heap.size) (hc : ∀ i, i < clen → w.cell? ⟨cb, coff + i, none⟩ = some (.int .i64 (z i))) :
    Calls Try.prog 12 #[.string b, .slice (some ⟨cb, coff, none⟩) clen ccap] w fun e w' =>
      ∃ v, e = .returned (.tuple #[v, .int .i64 ((Lk.all b.data.toList).2.1 : Int)]) ∧ w'.ownsRow w.heap.size 26 3 v (Lk.all b.data.toList).1.length (framesV (Lk.all b.data.toList).1) ∧ Below w.heap.size w w' := by
  obtain ⟨inf, hi, hz0, hz1, hz2⟩ := info_parts info_frame
  go_enter Try.func12, Try.ntmps12
  go_wp2_with fail
  refine (newReader_any w).mono ?_
  rintro e w1 ⟨rfl, rfl⟩
  have hR0 := Is.new w 52 [.string ⟨#[]⟩, .int .i64 0, .int .i64 0]
  have hb0 := (Below.refl w.heap.size w).alloc (Nat.le_refl _) (.cells #[.string ⟨#[]⟩, .int .i64 0, .int .i64 0] 52)
  go_wp2_with fail
  go_loopw [7, 8, 9, 10] (fun v la er i wr => ∃ (k last : Nat) (fs : List Lk.Fr) (e : Int) (s : ByteArray), i = .int .i64 k ∧ la = .int .i64 last ∧ er = .int .i64 e ∧ k ≤ clen + 1 ∧ last ≤ b.size ∧ (clen < k → last = b.size) ∧ FedTo b.data.toList last fs e s
      ∧ wr.ownsRow w.heap.size 26 3 v fs.length (framesV fs) ∧ Is wr w.heap.size 52 [.string s, .int .i64 0, .int .i64 e] ∧ Below w.heap.size w wr) (fun _ _ _ i _ => clen + 1 - (intOf i).toNat)
  case atStart => exact ⟨0, 0, [], 0, ⟨#[]⟩, rfl, rfl, rfl, by omega, Nat.zero_le _, by omega, FedTo.start _, World.ownsRow_nil _ _ _ _, hR0, hb0⟩
  case round =>
    clear hR0 hb0
    obtain ⟨k, last, fs, e, s, rfl, rfl, rfl, hk, hlast, hlk, hfed, hown, hR, hbel⟩ := hrel
    by_cases hkl : k ≤ clen
    · have hkl' : (k : Int) ≤ clen := by omega
      have hzk : k < clen → wr.cell? ⟨cb, coff + k, none⟩ = some (.int .i64 (z k)) := fun h => (hbel.cell (p := ⟨cb, coff + k, none⟩) hcb).trans (hc k h)
      have hcb' : cb < wr.heap.size := Nat.lt_of_lt_of_le hcb hbel.size
      go_upto_region 11 with fail
      go_cut [46] (fun s46 wx => wx = wr ∧ ∃ t : Bool, s46 = .bool t ∧ (t = true → k < clen ∧ (last : Int) ≤ z k ∧ z k ≤ b.size))
      case first =>
        by_cases h1 : k < clen
        · have h1' : (k : Int) < clen := by omega
          have hz := hzk h1
          clear hzk
          by_cases h2 : (last : Int) ≤ z k
          · by_cases h3 : z k ≤ b.size
            · go_wp2_with fail
              go_meet
              exact ⟨rfl, _, rfl, fun _ => ⟨h1, h2, h3⟩⟩
            · have h3' : decide (z k ≤ (b.size : Int)) = false := by simpa using h3
              go_wp2_with fail
              go_meet
              exact ⟨rfl, _, rfl, fun h => by simp at h⟩
          · have h2' : decide ((last : Int) ≤ z k) = false := by simpa using h2
            go_wp2_with fail
            go_meet
            exact ⟨rfl, _, rfl, fun h => by simp at h⟩
        · have h1' : ¬ (k : Int) < clen := by omega
          go_wp2_with fail
          go_meet
          exact ⟨rfl, _, rfl, fun h => by simp at h⟩
      case rest =>
        obtain ⟨rfl, t, rfl, ht⟩ := hcut
        go_upto_if 46 with fail
        go_cut [11] (fun s11 wx => wx = wc ∧ ∃ nxt : Nat, s11 = .int .i64 nxt ∧ last ≤ nxt ∧ nxt ≤ b.size ∧ (k = clen → nxt = b.size))
        case first =>
          cases t with
          | true =>
            obtain ⟨h1, h2, h3⟩ := ht rfl
            have hz := hzk h1
            clear hzk ht
            go_wp2_with fail
            go_meet
            exact ⟨rfl, (z k).toNat, by rw [Int.toNat_of_nonneg (by omega)], by omega, by omega, by omega⟩
          | false =>
            clear hzk ht
            go_wp2_with fail
            go_meet
            exact ⟨rfl, b.size, rfl, by omega, by omega, fun _ => rfl⟩
        case rest =>
          obtain ⟨rfl, nxt, rfl, hn1, hn2, hn3⟩ := hcut
          clear hzk ht
          have hnn : (last : Int) ≤ nxt := by omega
          have hnb : (nxt : Int) ≤ b.size := by omega
          go_wp2_with fail
          refine (feed_any w.heap.size s (b.extract last nxt) e _ (fun h => (hfed.rest h).2) (by rw [ByteArray.size_extract]; omega) hR).mono ?_
          rintro e' w1 ⟨v1, rfl, ho1, ⟨s1, hR1, hs1⟩, hT1⟩
          have hfed2 := hfed.step (take_piece b last nxt hn1) hs1
          have hstay := fun h => fed_err_stays (l := s.data.toList) (p := (b.extract last nxt).data.toList) (e := e) h
          have hown1 := hown.kept hT1 (.inr (fun h => own_ne hown hR (Nat.ne_of_beq_eq_false rfl) h.symm))
          have hbel1 := hT1.toBelow hbel (Nat.le_refl _) hbel.size
          have hnr : ∀ g, wc.heap.size ≤ g → Value.ownBlock u7 ≠ some g := fun g hg h => by have := (hown.lt g h).2; omega
          have hcount : 3 * (fs ++ Lk.fedFrames s.data.toList e (b.extract last nxt).data.toList).length ≤ b.size := by
            rw [← hfed2.frames]
            have := Lk.all_len (b.data.toList.take nxt)
            rw [List.length_take] at this
            omega
          generalize Lk.fedFrames s.data.toList e (b.extract last nxt).data.toList = fs1 at *
          generalize Lk.fedErr s.data.toList e (b.extract last nxt).data.toList = er1 at *
          rw [List.length_append] at hcount
          have hrl := hR1.lt
          have hws := hbel.size
          have HFED := hide hfed2
          have HSTAY := hide hstay
          clear hfed2 hstay hs1 hT1 hown hbel hfed hlk hR
          by_cases he : e = 0
          · have he' : (e != 0) = false := by simpa using he
            rcases ho1.2 with ⟨rfl, h0⟩ | ⟨gl, cap, cur, rfl, hgB, hgg, hgn, hcm, hcs, htk⟩
            · have hf0 : fs1 = [] := List.eq_nil_of_length_eq_zero h0
              subst hf0
              go_wp2_with fail
              refine wp_loop_rounds 1 ?_
              rw [rounds_succ]
              go_wp2_with (go_at_call 8; refine (num_any _ _).mono ?_; rintro e2 w2 ⟨rfl, rfl⟩)
              go_roundw
              case rel =>
                have hf := unhide HFED
                rw [List.append_nil] at hf
                exact ⟨k + 1, nxt, fs, er1, s1, by go_num, rfl, rfl, by omega, hn2, fun _ => hn3 (by omega), hf, hown1, hR1, hbel1⟩
              case measure => simp [intOf]; omega
            · have hG0 : Is w1 gl 26 cur.toList := by unfold Is; simpa using hgg
              have htold := Told.start htk
              have hne1 := hnr gl hgB
              clear hgg htk hcs hnr ho1
              go_wp2_with fail
              go_loopw [7, 14] (fun v kk wr2 => ∃ (q : Nat) (cs : List Value), kk = .int .i64 q ∧ q ≤ fs1.length ∧ wr2.ownsRow w.heap.size 26 3 v (fs ++ fs1.take q).length (framesV (fs ++ fs1.take q)) ∧ Is wr2 gl 26 cs ∧ Told cs fs1 q ∧ Value.ownBlock v ≠ some gl ∧ Is wr2 w.heap.size 52 [.string s1, .int .i64 0, .int .i64 er1] ∧ Below w.heap.size w wr2) (fun _ kk _ => fs1.length - (intOf kk).toNat)
              case atStart => exact ⟨0, _, rfl, Nat.zero_le _, by simpa using hown1, hG0, htold, hne1, hR1, hbel1⟩
              case round =>
                clear hG0 htold hne1 hR1 hbel1 hown1
                obtain ⟨q, cs, rfl, hq, hown2, hG, hto, hne2, hR2, hbel2⟩ := hrel
                by_cases hql : q < fs1.length
                · have hql' : (q : Int) < fs1.length := by omega
                  have ht := hto.2 q (Nat.le_refl _) hql
                  have c0 := hG.cell (q * 3)
                  have c1 := hG.cell (q * 3 + 1)
                  have c2 := hG.cell (q * 3 + 2)
                  have f0 := hG.free (q * 3)
                  have f1 := hG.free (q * 3 + 1)
                  have f2 := hG.free (q * 3 + 2)
                  rw [ht.1] at c0
                  rw [ht.2.1] at c1
                  rw [ht.2.2] at c2
                  generalize hfr : fs1[q] = fr at *
                  have HFR := hide hfr
                  clear hfr ht
                  have hlen : (fs ++ fs1.take q).length = fs.length + q := by rw [List.length_append, List.length_take]; omega
                  have HLEN := hide hlen
                  clear hlen
                  go_wp2_with (at_builtin; refine wpList_append_lies _ rfl _ _ 35 rfl w.heap.size 26 inf _ 3 32 Try.underlying35 hi hz0 hz1 hz2 rfl (by decide) _ (fs ++ fs1.take q).length (framesV (fs ++ fs1.take q)) rfl (hown2.alloc _) ⟨wr.heap.size, 0, none⟩ 1 1 [.int .i64 (fr.k : Int), .int .i64 (fr.st : Int), .string ⟨fr.d.toArray⟩] rfl rfl ?hnews ?h1 (by decide) ?h63 ?hby ?hba _ rfl ?_)
                  case hnews => exact cells_three wr _ _ _ 26
                  case h1 => simp [Value.oneCell']
                  case h63 => have := unhide HLEN; unfold maxLen; omega
                  case hby => have := unhide HLEN; omega
                  case hba => have := hbel2.size; first | omega | (rw [World.size_alloc]; omega)
                  intro g cap2 w2 ho2 hg2 hor hlt2
                  have hgl : g ≠ gl := by
                    rcases hor with h | h
                    · rintro rfl; exact hne2 h
                    · have := hG.lt; first | omega | (simp at h; omega)
                  have hG2 := (hG.alloc (.cells #[.int .i64 (fr.k : Int), .int .i64 (fr.st : Int), .string ⟨fr.d.toArray⟩] 26)).grown hg2 (fun h => hne2 h.symm)
                  have hR3 := (hR2.alloc (.cells #[.int .i64 (fr.k : Int), .int .i64 (fr.st : Int), .string ⟨fr.d.toArray⟩] 26)).grown hg2 (own_ne hown2 hR2 (Nat.ne_of_beq_eq_false rfl))
                  have hb3 : Below w.heap.size w w2 := (hbel2.alloc hbel2.size _).grown hg2 (by have := hbel2.size; simp; omega) (fun j hj => (hown2.lt j hj).1)
                  have e3 := framesV_snoc (fs ++ fs1.take q) fr
                  rw [e3] at ho2
                  clear e3 c0 c1 c2 f0 f1 f2 hG hR2 hbel2 hown2 hg2 hor hne2
                  have ht := hto.2 q (Nat.le_refl _) hql
                  have c0 := hG2.cell (q * 3)
                  have c1 := hG2.cell (q * 3 + 1)
                  have c2 := hG2.cell (q * 3 + 2)
                  have f0 := hG2.free (q * 3)
                  have f1 := hG2.free (q * 3 + 1)
                  have f2 := hG2.free (q * 3 + 2)
                  rw [ht.1] at c0
                  rw [ht.2.1] at c1
                  rw [ht.2.2] at c2
                  clear ht
                  go_wp2_with fail
                  go_roundw
                  case rel =>
                    have e5 : fs ++ fs1.take (q + 1) = fs ++ fs1.take q ++ [fr] := by
                      rw [List.take_succ_eq_append_getElem hql, unhide HFR, List.append_assoc]
                    have hk1 := (((ho2.kept (grownBy_set w2 gl (q * 3) (.int .i64 0)) (.inr (by simp [Value.ownBlock]; exact hgl))).kept (grownBy_set _ gl (q * 3 + 1) (.int .i64 0)) (.inr (by simp [Value.ownBlock]; exact hgl))).kept (grownBy_set _ gl (q * 3 + 2) (.string ⟨#[]⟩)) (.inr (by simp [Value.ownBlock]; exact hgl)))
                    refine ⟨q + 1, _, by go_num, by omega, ?_, ((hG2.set _ _).set _ _).set _ _, hto.spoil _ _ _, by simp [Value.ownBlock]; exact hgl, ?_, ?_⟩
                    · have hmin : min q fs1.length = q := by omega
                      rw [e5]
                      simpa [hmin, Nat.add_assoc] using hk1
                    · have hRg : some w.heap.size ≠ some gl := fun h => hR3.ne hG2 (Nat.ne_of_beq_eq_false rfl) (Option.some.inj h)
                      exact ((hR3.grown (grownBy_set _ gl _ _) hRg).grown (grownBy_set _ gl _ _) hRg).grown (grownBy_set _ gl _ _) hRg
                    · have hwg : w.heap.size ≤ gl := Nat.le_trans hws hgB
                      exact ((hb3.setCell hwg _).setCell hwg _).setCell hwg _
                  case measure => simp [intOf]; omega
                · have hqe : q = fs1.length := by omega
                  subst hqe
                  rw [List.take_length] at hown2
                  go_wp2_with (go_at_call 8; refine (num_any _ _).mono ?_; rintro e2 w2 ⟨rfl, rfl⟩)
                  go_roundw
                  case rel => exact ⟨k + 1, nxt, fs ++ fs1, er1, s1, by go_num, rfl, rfl, by omega, hn2, fun _ => hn3 (by omega), unhide HFED, hown2, hR2, hbel2⟩
                  case measure => simp [intOf]; omega
          · have he' : (e != 0) = true := by simpa using he
            obtain ⟨rfl, rfl⟩ := unhide HSTAY he
            have hne' : (er1 != er1) = false := by simp
            obtain ⟨ad, cp, rfl⟩ : ∃ ad cp, v1 = .slice ad 0 cp := by
              rcases ho1.2 with ⟨rfl, _⟩ | ⟨gl, cap, cur, rfl, _⟩
              · exact ⟨_, _, rfl⟩
              · exact ⟨_, _, rfl⟩
            clear ho1 hnr HSTAY
            go_wp2_with (go_at_call 8; refine (num_any _ _).mono ?_; rintro e2 w2 ⟨rfl, rfl⟩)
            refine wp_loop_rounds 1 ?_
            rw [rounds_succ]
            go_wp2_with (go_at_call 8; refine (num_any _ _).mono ?_; rintro e2 w2 ⟨rfl, rfl⟩)
            go_roundw
            case rel =>
              have hf := unhide HFED
              rw [List.append_nil] at hf
              exact ⟨k + 1, nxt, fs, er1, s1, by go_num, rfl, rfl, by omega, hn2, fun _ => hn3 (by omega), hf, hown1, hR1, hbel1⟩
            case measure => simp [intOf]; omega
    · have hkl' : ¬ (k : Int) ≤ clen := by omega
      have hend := hlk (by omega)
      subst hend
      have hf1 := hfed.frames
      have hf2 := hfed.err
      rw [List.take_of_length_le (by rw [size_list]; exact Nat.le_refl _)] at hf1 hf2
      have H1 := hide hf1
      have H2 := hide hf2
      clear hf1 hf2
      go_wp2_with fail
      go_ret2
      rw [unhide H1, unhide H2]
      exact ⟨_, rfl, hown, hbel⟩

end Go.Proofs.Ytbkpdapagfjmmaa
