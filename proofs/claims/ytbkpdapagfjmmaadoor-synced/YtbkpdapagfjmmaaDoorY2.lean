/-
  Walks: Synced.
-/
import Derived.Test.YtbkpdapagfjmmaaDoorY1
namespace Go.Proofs.YtbkpdapagfjmmaaDoor
open Go.RowKit

theorem Tab.grown {w w' : World} {t B : Nat} {L : List Lk.Hd} {v : Value} {row : Option Nat} (h : Tab w t B L v) (hg : w.grownBy w' row) (h1 : some t ≠ row) (h2 : v.ownBlock = none ∨ v.ownBlock ≠ row) : Tab w' t B L v :=
  ⟨h.blk.grown hg h1, h.own.kept hg h2, h.le, h.hB⟩
theorem Tab.drewN {w : World} {t B : Nat} {L : List Lk.Hd} {v : Value} (h : Tab w t B L v) (n : Nat) : Tab (w.drewN n) t B L v := ⟨h.blk, h.own, h.le, h.hB⟩
theorem Tab.len2 {w : World} {t B : Nat} {L : List Lk.Hd} {v : Value} (h : Tab w t B L v) : L.length ≤ 50 := by
  have := h.len
  rw [Lk.ents_len] at this
  omega
theorem own_dn {w : World} {B : Nat} {e : TypeId} {size n : Nat} {v : Value} {xs : List Value} (m : Nat) (h : w.ownsRow B e size v n xs) : (w.drewN m).ownsRow B e size v n xs := h
theorem Fx.drewN {w : World} (h : Fx w) (n : Nat) : Fx (w.drewN n) := h

/-- A row that lies behind B is none that lay there. -/
theorem row_far {w : World} {B n m : Nat} {T : TypeId} {v u : Value} {xs ys : List Value} (ho : w.ownsRow 0 T 2 v n xs) {w' : World} (hl : w.heap.size ≤ B) (hu : w'.ownsRow B T 2 u m ys) : v.ownBlock = none ∨ v.ownBlock ≠ u.ownBlock := by
  cases hv : v.ownBlock with
  | none => exact .inl rfl
  | some k =>
    right
    intro e
    have h1 := (ho.lt k hv).2
    have h2 := (hu.lt k e.symm).1
    omega

/-- The two tables, alike. -/
structure Syn (w wr : World) (ta tb B : Nat) (L : List Lk.Hd) (va vb : Value) : Prop where
  a : Tab wr ta B L va
  b : Tab wr tb B L vb
  fx : Fx wr
  bel : Below w.heap.size w wr
  a1 : w.heap.size ≤ ta
  b1 : w.heap.size ≤ tb
  ne : ta ≠ tb

theorem Syn.below {w wr w' : World} {ta tb B : Nat} {L : List Lk.Hd} {va vb : Value} (h : Syn w wr ta tb B L va vb) (hb : Below wr.heap.size wr w') : Syn w w' ta tb B L va vb :=
  ⟨h.a.below hb, h.b.below hb, h.fx.below hb h.fx.1, h.bel.trans (hb.mono h.bel.size), h.a1, h.b1, h.ne⟩

/-- Lists of names and values, as they came in. -/
structure Lists (w : World) (g o : Nat) (LL : List (List ByteArray)) : Prop where
  lt : g < w.heap.size
  at' : ∀ (i : Nat) (ls : List ByteArray), LL[i]? = some ls → ls.length ≤ 2 ^ 43 ∧ ∃ sv, w.cell? ⟨g, o + i, none⟩ = some sv ∧ Strs w sv ls

set_option maxHeartbeats 8000000 in
set_option maxRecDepth 100000 in
theorem synced_some (c : Int) (g o cap : Nat) (LL : List (List ByteArray)) (w : World) (hfx : Fx w) (hLL : LL.length ≤ 2 ^ 47) (hls : Lists w g o LL) :
    Calls Tryd.prog 3 #[.int .i64 c, .slice (some ⟨g, o, none⟩) LL.length cap] w fun e w' => e = .returned (.bool true) ∧ Below w.heap.size w w' := by
  have h0 := hfx.1
  have HFX := hide hfx
  have HLS := hide hls
  clear hfx hls
  go_enter Tryd.func3, Tryd.ntmps3
  go_wp2_with fail
  refine (bounded200 c _).mono ?_
  rintro e w0 ⟨⟨B, hB, rfl⟩, rfl⟩
  go_wp2_with fail
  refine (newTable_at _ B rfl hB _).mono ?_
  rintro e w1 ⟨ta, rfl, hta, hA1, hb1⟩
  have HA1 := hide hA1
  clear hA1
  go_wp2_with fail
  refine (newTable_at _ B rfl hB _).mono ?_
  rintro e w2 ⟨tb, rfl, htb, hB2, hb2⟩
  have hSyn : Syn w0 w2 ta tb B [] (.slice none 0 0) (.slice none 0 0) :=
    ⟨(unhide HA1).below hb2, hB2, ((unhide HFX).below hb1 h0).below hb2 (by have := hb1.size; omega), hb1.trans (hb2.mono hb1.size), hta, by have := hb1.size; omega, by have := (unhide HA1).blk.lt; omega⟩
  have HSYN := hide hSyn
  clear hSyn hB2 hb1 hb2 HA1
  go_wp2_with (go_at_call 7; refine (num_id _ _).mono ?_; rintro e w' ⟨rfl, rfl⟩)
  go_loopw [10] (fun u wr => ∃ (k : Nat) (L : List Lk.Hd) (va vb : Value), u = .int .i64 k ∧ k ≤ LL.length ∧ Syn w0 wr ta tb B L va vb) (fun u _ => LL.length - (intOf u).toNat)
  case atStart => exact ⟨0, [], _, _, rfl, by omega, unhide HSYN⟩
  case round =>
    obtain ⟨k, L, va, vb, rfl, hk, hS⟩ := hrel
    by_cases hlt : k < LL.length
    · have hlt' : (k : Int) < LL.length := by omega
      obtain ⟨ls, hlsk⟩ : ∃ ls, LL[k]? = some ls := ⟨_, List.getElem?_eq_getElem hlt⟩
      obtain ⟨hlsl, sv, hsv, hstr⟩ := (unhide HLS).at' k ls hlsk
      have hgl := (unhide HLS).lt
      have hsz := hS.bel.size
      have c0 : wr.cell? ⟨g, o + k, none⟩ = some sv := by rw [hS.bel.cell (p := ⟨g, o + k, none⟩) hgl]; exact hsv
      have HSTR := hide (hstr.below hS.bel (Nat.le_refl _))
      have hPl := pairs_len ls
      generalize hP : pairs ls = P at hPl
      have HP := hide hP
      have hPl2 : P.length ≤ 2 ^ 42 := by omega
      have HS := hide hS
      clear hlsk hsv hstr hS hP hPl
      go_wp2_with fail
      refine (heads_any sv ls _ (by omega) (unhide HSTR)).mono ?_
      rintro e w3 ⟨hv, rfl, ho3, hb3⟩
      rw [unhide HP] at ho3
      have HS3 := hide ((unhide HS).below hb3)
      have HO3 := hide ho3
      have c0 := call_keeps hb3 (by omega) c0
      have HSTR3 := hide ((unhide HSTR).below hb3 (Nat.le_refl _))
      have hs3 := hb3.size
      clear ho3 hb3 HS HSTR
      go_wp2_with fail
      refine (entries_any ta B L va _ (unhide HS3).a).mono ?_
      rintro e w4 ⟨was, rfl, ho4, hb4⟩
      have hL50 := (unhide HS3).a.len2
      have HS4 := hide ((unhide HS3).below hb4)
      have HH4 := hide (own_below (unhide HO3) hb4)
      have HW4 := hide ho4
      have c0 := call_keeps hb4 (by omega) c0
      have HSTR4 := hide ((unhide HSTR3).below hb4 (Nat.le_refl _))
      have hs4 := hb4.size
      clear ho4 hb4 HS3 HO3 HSTR3
      go_wp2_with fail
      refine (lawClone_any _ was L _ (by omega) (unhide HW4)).mono ?_
      rintro e w5 ⟨kept, rfl, ho5, hb5⟩
      have HS5 := hide ((unhide HS4).below hb5)
      have HH5 := hide (own_below (unhide HH4) hb5)
      have HW5 := hide (own_below (unhide HW4) hb5)
      have HK5 := hide ho5
      have c0 := call_keeps hb5 (by omega) c0
      have HSTR5 := hide ((unhide HSTR4).below hb5 (Nat.le_refl _))
      have hs5 := hb5.size
      clear ho5 hb5 HS4 HH4 HW4 HSTR4
      go_wp2_with fail
      refine (theirs_any sv ls _ (by omega) (unhide HSTR5)).mono ?_
      rintro e w6 ⟨tv, rfl, ho6, hb6⟩
      rw [unhide HP] at ho6
      have HS6 := hide ((unhide HS5).below hb6)
      have HH6 := hide (own_below (unhide HH5) hb6)
      have HW6 := hide (own_below (unhide HW5) hb6)
      have HK6 := hide (own_below (unhide HK5) hb6)
      have HT6 := hide ho6
      have hs6 := hb6.size
      clear ho6 hb6 HS5 HH5 HW5 HK5 HSTR5 c0
      go_wp2_with fail
      refine (refWrong_any _ tv P _ (unhide HT6)).mono ?_
      rintro e w7 ⟨rfl, hb7⟩
      have HS7 := hide ((unhide HS6).below hb7)
      have HH7 := hide (own_below (unhide HH6) hb7)
      have HW7 := hide (own_below (unhide HW6) hb7)
      have HK7 := hide (own_below (unhide HK6) hb7)
      have hs7 := hb7.size
      clear hb7 HS6 HH6 HW6 HK6 HT6
      by_cases hw : (Lk.wrong P).1 = 0
      · have hok := Lk.wrong_ok hw
        have hP6 := hok.1
        have hC := squeezeCall_ok ta B _ L P va hv _ (unhide HS7).a (unhide HS7).fx (by have := (unhide HS7).a1; omega) hw (unhide HH7)
        have hex := Lk.exR_squeeze B hB P L [] 6 hP6 (unhide HS7).a.le hok.2
        simp only [List.nil_append, List.length_nil] at hex
        have hlen := Lk.squeeze_len B hB P L (unhide HS7).a.le hok.2
        have hnil := Lk.squeeze_nil B P L
        have hlw := Lk.squeeze_weights B P L (unhide HS7).a.le
        rw [hw]
        generalize hSe : (Lk.squeeze B L P).1 = S at *
        generalize hLe : (Lk.squeeze B L P).2 = L2 at *
        have HC := hide hC
        have HEX : Hid (Lk.exR B (bs S).data.toList 6 L 0 = .ok P L2) := by rw [bs_list]; exact hex
        have hSs : (bs S).size ≤ 2 ^ 48 := by rw [bs_size]; omega
        have HNIL := hide hnil
        clear hC hex hlen hnil hSe hLe hok hw
        generalize (Lk.wrong P).2 = E2 at *
        go_wp2_with fail
        refine (unhide HC).mono ?_
        rintro e w8 ⟨rfl, ⟨va8, hA8⟩, hT8⟩
        have hB8 := (unhide HS7).b.turns hT8 (unhide HS7).a.blk (Ne.symm (unhide HS7).ne)
        have hta1 := (unhide HS7).a1
        have htb1 := (unhide HS7).b1
        have hne := (unhide HS7).ne
        have hF8 : Fx w8 := (unhide HS7).fx.grown hT8 (by simp; omega)
        have HBEL8 := hide (Turns.toBelow (unhide HS7).bel hT8 hta1 (unhide HS7).bel.size)
        have HH8 := hide (own_turns (unhide HH7) (unhide HS7).a.blk (Nat.ne_of_beq_eq_false rfl) hT8)
        have HW8 := hide (own_turns (unhide HW7) (unhide HS7).a.blk (Nat.ne_of_beq_eq_false rfl) hT8)
        have HK8 := hide (own_turns (unhide HK7) (unhide HS7).a.blk (Nat.ne_of_beq_eq_false rfl) hT8)
        have HA8 := hide hA8
        have HB8 := hide hB8
        have HF8 := hide hF8
        have hs8 := hT8.size
        clear hA8 hB8 hF8 hT8 HC HH7 HW7 HK7 HS7
        go_wp2_with (go_at_call 7; refine (num_id _ _).mono ?_; rintro e w' ⟨rfl, rfl⟩)
        refine (expand_any tb B L vb (bs S) _ hSs (unhide HB8) (unhide HF8) _ HEX).mono ?_
        rintro e w9 ⟨⟨lv, vb9, rfl, hl9, hB9, hdis, _⟩, hT9⟩
        have HA9 := hide ((unhide HA8).turns hT9 (unhide HB8).blk hne)
        have HBEL9 := hide (Turns.toBelow (unhide HBEL8) hT9 htb1 (unhide HBEL8).size)
        have HH9 := hide (own_turns (unhide HH8) (unhide HB8).blk (Nat.ne_of_beq_eq_false rfl) hT9)
        have HW9 := hide (own_turns (unhide HW8) (unhide HB8).blk (Nat.ne_of_beq_eq_false rfl) hT9)
        have HK9 := hide (own_turns (unhide HK8) (unhide HB8).blk (Nat.ne_of_beq_eq_false rfl) hT9)
        have HF9 := hide ((unhide HF8).grown hT9 (by simp; omega))
        have HVL := hide (row_far (unhide HA8).own (Nat.le_refl _) hl9)
        have HL9 := hide hl9
        have HB9 := hide hB9
        have HDIS := hide hdis
        have hs9 := hT9.size
        clear hl9 hB9 hdis hT9 HA8 HB8 HF8 HBEL8 HH8 HW8 HK8
        go_wp2_with fail
        refine (elsewhere_any _ (unhide HF9)).mono ?_
        rintro e w10 ⟨rfl, hb10⟩
        have HA10 := hide ((unhide HA9).below hb10)
        have HB10 := hide ((unhide HB9).below hb10)
        have HH10 := hide (own_below (unhide HH9) hb10)
        have HW10 := hide (own_below (unhide HW9) hb10)
        have HK10 := hide (own_below (unhide HK9) hb10)
        have HL10 := hide (own_below (unhide HL9) hb10)
        have HLT := hide (fun k (hk : lv.ownBlock = some k) => ((unhide HL10).lt k hk).2)
        have HF10 := hide ((unhide HF9).below hb10 (unhide HF9).1)
        have HBEL10 := hide ((unhide HBEL9).trans (hb10.mono (unhide HBEL9).size))
        have hs10 := hb10.size
        clear hb10 HA9 HB9 HH9 HW9 HK9 HL9 HF9 HBEL9
        go_wp2_with fail
        refine (entries_any ta B L2 va8 _ (unhide HA10)).mono ?_
        rintro e w11 ⟨xv, rfl, hx11, hb11⟩
        have HVX := hide (row_far (unhide HA10).own (Nat.le_refl _) hx11)
        have HVX2 := hide (row_far (unhide HB10).own (Nat.le_refl _) hx11)
        have HA11 := hide ((unhide HA10).below hb11)
        have HB11 := hide ((unhide HB10).below hb11)
        have HH11 := hide (own_below (unhide HH10) hb11)
        have HW11 := hide (own_below (unhide HW10) hb11)
        have HK11 := hide (own_below (unhide HK10) hb11)
        have HL11 := hide (own_below (unhide HL10) hb11)
        have HX11 := hide hx11
        have HF11 := hide ((unhide HF10).below hb11 (unhide HF10).1)
        have HBEL11 := hide ((unhide HBEL10).trans (hb11.mono (unhide HBEL10).size))
        have hs11 := hb11.size
        clear hb11 hx11 HA10 HB10 HH10 HW10 HK10 HL10 HF10 HBEL10
        go_wp2_with fail
        refine (entries_any tb B L2 vb9 _ (unhide HB11)).mono ?_
        rintro e w12 ⟨yv, rfl, hy12, hb12⟩
        have hL250 := (unhide HA11).len2
        have HA12 := hide ((unhide HA11).below hb12)
        have HB12 := hide ((unhide HB11).below hb12)
        have HH12 := hide (own_below (unhide HH11) hb12)
        have HW12 := hide (own_below (unhide HW11) hb12)
        have HK12 := hide (own_below (unhide HK11) hb12)
        have HL12 := hide (own_below (unhide HL11) hb12)
        have HX12 := hide (own_below (unhide HX11) hb12)
        have HY12 := hide hy12
        have HF12 := hide ((unhide HF11).below hb12 (unhide HF11).1)
        have HBEL12 := hide ((unhide HBEL11).trans (hb12.mono (unhide HBEL11).size))
        have hs12 := hb12.size
        clear hb12 hy12 HA11 HB11 HH11 HW11 HK11 HL11 HX11 HF11 HBEL11
        go_wp2_with fail
        refine (alike_any _ _ lv hv P _ (by omega) (unhide HL12) (unhide HH12)).mono ?_
        rintro e w13 ⟨rfl, n13, rfl⟩
        go_wp2_with fail
        refine (alike_any _ _ xv yv L2 _ (by omega) (own_dn n13 (unhide HX12)) (own_dn n13 (unhide HY12))).mono ?_
        rintro e w14 ⟨rfl, n14, rfl⟩
        go_wp2_with fail
        refine (alike_any _ _ was kept L _ (by omega) (own_dn _ (unhide HW12)) (own_dn _ (unhide HK12))).mono ?_
        rintro e w15 ⟨rfl, n15, rfl⟩
        obtain ⟨xa, xcap, hxe⟩ := own_form (unhide HX12)
        subst hxe
        obtain ⟨ha, hcap, hhe⟩ := own_form (unhide HH12)
        subst hhe
        go_wp2_with fail
        go_loopw [26, 27] (fun s26 s27 wz => ∃ (j n : Nat), s27 = .int .i64 j ∧ j ≤ L2.length ∧ s26 = .int .i64 (Lk.weights (L2.take j) : Nat) ∧ wz = w12.drewN n) (fun _ u _ => L2.length - (intOf u).toNat)
        case atStart => exact ⟨0, _, rfl, by omega, rfl, rfl⟩
        case round =>
          obtain ⟨j, nz, rfl, hj, rfl, rfl⟩ := hrel
          have hwj := Lk.weights_take_le L2 j
          by_cases hjl : j < L2.length
          · have hjl' : (j : Int) < L2.length := by omega
            obtain ⟨gx, cx, hform, _⟩ := (unhide HX12).form (by omega)
            cases hform
            obtain ⟨x, hx⟩ : ∃ x, L2[j]? = some x := ⟨_, List.getElem?_eq_getElem hjl⟩
            obtain ⟨_, x0, x1⟩ := row_at2 (unhide HX12) hx
            have z1 := bs_size x.n
            have z2 := bs_size x.v
            have hwx : Lk.weights (L2.take (j + 1)) = Lk.weights (L2.take j) + x.weight := by
              rw [List.take_add_one, hx]
              simp [Lk.weights_append, Lk.weights]
            have hwj2 := Lk.weights_take_le L2 (j + 1)
            have hxw : x.weight = x.n.length + x.v.length + 4 := rfl
            have hnx : x.n.length ≤ 300 := by omega
            have hvx : x.v.length ≤ 300 := by omega
            have HWX := hide hwx
            have HXW := hide hxw
            clear hx hwx hwj2 hxw
            go_wp2_with fail
            go_quiet (fail)
            go_wp2_with fail
            go_roundw
            case rel =>
              refine ⟨j + 1, _, by simp, by omega, ?_, rfl⟩
              have e1 := unhide HWX
              have e2 := unhide HXW
              simp only [Value.int.injEq, true_and]
              omega
            case measure => simp [intOf]; omega
          · have hjl' : ¬ (j : Int) < L2.length := by omega
            have hjL : L2.take j = L2 := List.take_of_length_le (by omega)
            have hsum : ¬ (B : Int) < (Lk.weights (L2.take j) : Nat) := by omega
            have hbw : ¬ B < Lk.weights L2 := by omega
            have hse : ((bs S).toList.isEmpty == ((P.length : Int) == 0)) = true := by
              have hn := unhide HNIL
              rw [ByteArray.toList_eq, bs_list]
              cases S with
              | nil => rw [hn.1 rfl]; rfl
              | cons y S' =>
                cases P with
                | nil => exact absurd (hn.2 rfl) (by simp)
                | cons z P' => simp; omega
            go_wp2_with (go_at_call 7; refine (num_id _ _).mono ?_; rintro e w' ⟨rfl, rfl⟩)
            refine (spoil_any _ _ L2 _ (by omega) (own_dn _ (unhide HX12))).mono ?_
            rintro e w16 ⟨rfl, hg16⟩
            have hbx : ∀ t T cs, T ≠ 44 → Is w12 t T cs → some t ≠ (Value.slice xa L2.length xcap).ownBlock := fun t T cs hT hI => own_ne (unhide HX12) hI hT
            have hg16' : w12.grownBy w16 (Value.slice xa L2.length xcap).ownBlock := ⟨hg16.os, hg16.tape, hg16.output, hg16.size, hg16.block⟩
            have hA16 := (unhide HA12).grown hg16' (hbx _ _ _ (Nat.ne_of_beq_eq_false rfl) (unhide HA12).blk) (unhide HVX)
            have hB16 := (unhide HB12).grown hg16' (hbx _ _ _ (Nat.ne_of_beq_eq_false rfl) (unhide HB12).blk) (unhide HVX2)
            have hx0 : ∀ k, (Value.slice xa L2.length xcap).ownBlock = some k → w10.heap.size ≤ k := fun k hk => ((unhide HX12).lt k hk).1
            have hl0 : ∀ k, lv.ownBlock = some k → k < w10.heap.size ∧ w'.heap.size ≤ k := fun k hk => ⟨(unhide HLT) k hk, ((unhide HL12).lt k hk).1⟩
            have hbs := (unhide HBEL12).size
            have hF16 := (unhide HF12).grown hg16' (fun e => by have := hx0 0 e.symm; omega)
            have hbel16 : Below w0.heap.size w0 w16 := (unhide HBEL12).grown hg16' hbs (fun k hk => by have := hx0 k hk; omega)
            have hL16 := (unhide HL12).kept hg16' (by
              cases hv : lv.ownBlock with
              | none => exact .inl rfl
              | some q =>
                right
                intro e
                have h1 := (hl0 q hv).1
                have h2 := hx0 q e.symm
                omega)
            have HA16 := hide hA16
            have HB16 := hide hB16
            have HF16 := hide hF16
            have HBEL16 := hide hbel16
            have HL16 := hide hL16
            have HL0 := hide hl0
            have hs16 := hg16'.size
            clear hg16 hg16' hA16 hB16 hF16 hbel16 hL16 hbx hx0 hl0 hse
            go_wp2_with fail
            refine (spoil_any _ _ P _ (by omega) (unhide HL16)).mono ?_
            rintro e w17 ⟨rfl, hg17⟩
            have hA17 := (unhide HA16).grown hg17 (own_ne (unhide HL16) (unhide HA16).blk (Nat.ne_of_beq_eq_false rfl)) (unhide HVL)
            have hB17 := (unhide HB16).grown hg17 (own_ne (unhide HL16) (unhide HB16).blk (Nat.ne_of_beq_eq_false rfl)) (by
              cases hv : vb9.ownBlock with
              | none => exact .inl rfl
              | some q =>
                right
                rcases unhide HDIS with h | h
                · rw [h]; simp
                · rw [hv] at h; exact fun e => h e.symm)
            have hl0 := unhide HL0
            have hF17 := (unhide HF16).grown hg17 (fun e => by have := (hl0 0 e.symm).2; omega)
            have hbel17 : Below w0.heap.size w0 w17 := (unhide HBEL16).grown hg17 (by omega) (fun k hk => by have := (hl0 k hk).2; omega)
            have HSF := hide (show Syn w0 w17 ta tb B L2 va8 vb9 from ⟨hA17, hB17, hF17, hbel17, hta1, htb1, hne⟩)
            clear hA17 hB17 hF17 hbel17 hl0 hg17
            go_wp2_with fail
            go_roundw
            case rel => exact ⟨k + 1, L2, va8, vb9, by simp, by omega, unhide HSF⟩
            case measure => simp [intOf]; omega
      · have hw0 : (((Lk.wrong P).1 : Int) != 0) = true := by rw [bne_iff_ne]; omega
        have HC := hide (squeezeCall_bad ta _ P hv _ hw (unhide HH7))
        generalize (Lk.wrong P).1 = E1 at *
        generalize (Lk.wrong P).2 = E2 at *
        go_wp2_with fail
        refine (unhide HC).mono ?_
        rintro e w8 ⟨rfl, hb8⟩
        go_wp2_with (go_at_call 7; refine (num_id _ _).mono ?_; rintro e w' ⟨rfl, rfl⟩)
        go_roundw
        case rel => exact ⟨k + 1, L, va, vb, by simp, by omega, (unhide HS7).below hb8⟩
        case measure => simp [intOf]; omega
    · have hlt' : ¬ (k : Int) < LL.length := by omega
      have hbel := hS.bel
      clear hS
      go_wp2_with fail
      go_ret
      exact ⟨rfl, hbel⟩

set_option maxHeartbeats 1000000 in
set_option maxRecDepth 100000 in
theorem synced_none (c : Int) (a : Option Addr) (cap : Nat) (w : World) :
    Calls Tryd.prog 3 #[.int .i64 c, .slice a 0 cap] w fun e w' => e = .returned (.bool true) ∧ Below w.heap.size w w' := by
  go_enter Tryd.func3, Tryd.ntmps3
  go_wp2_with fail
  refine (bounded200 c _).mono ?_
  rintro e w0 ⟨⟨B, hB, rfl⟩, rfl⟩
  go_wp2_with fail
  refine (newTable_at _ B rfl hB _).mono ?_
  rintro e w1 ⟨ta, rfl, hta, hA1, hb1⟩
  clear hA1
  go_wp2_with fail
  refine (newTable_at _ B rfl hB _).mono ?_
  rintro e w2 ⟨tb, rfl, htb, hB2, hb2⟩
  clear hB2
  have hbel := hb1.trans (hb2.mono hb1.size)
  go_wp2_with (go_at_call 7; refine (num_id _ _).mono ?_; rintro e w' ⟨rfl, rfl⟩)
  refine wp_loop_rounds 1 ?_
  rw [rounds_succ]
  go_wp2_with fail
  go_ret
  exact ⟨rfl, hbel⟩
end Go.Proofs.YtbkpdapagfjmmaaDoor
