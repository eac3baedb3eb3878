import Derived.Test.YtbkpdapagfjmmaaGreatDoorMV3V4
import Derived.Test.YtbkpdapagfjmmaaGreatDoorMFAO1
/-
  Walks: the headers of a block.
-/
namespace Go.Proofs.YtbkpdapagfjmmaaGreatDoor
open Go.RowKit

namespace Lk
theorem freshR_ge {L : List Hd} {k : Nat} {s : Bs} {p : Nat} {h : Hd} {q : Nat} (hp : p ≤ s.length) (hf : freshR L k s p = .ok h q) : p ≤ q := by
  unfold freshR at hf
  cases e : nameR L k s p with
  | bad q => rw [e] at hf; cases hf
  | ok n q1 =>
    rw [e] at hf
    have h1 := nameR_at hp e
    simp only at hf
    cases e2 : textR false s q1 with
    | bad q => rw [e2] at hf; cases hf
    | ok v q2 =>
      rw [e2] at hf
      have h2 := textR_ge h1.2 e2
      cases hf
      omega
end Lk

theorem bpart_any (b : Nat) (s : ByteArray) (p B : Nat) (L : List Lk.Hd) (v : Value) (w : World) (hs : s.size ≤ 2 ^ 48) (hp : p ≤ s.size) (hK : Blk w b s p B L v) :
    Calls Tryz.prog 154 #[.pointer (some ⟨b, 0, none⟩)] w fun e w' =>
      (match Lk.partR B L s.data.toList p with
        | .ok hl q => e = .returned (.tuple #[hdA hl.1, .bool true]) ∧ p < q ∧ q ≤ s.size ∧ ∃ v', Blk w' b s q B hl.2 v' ∧ NewOr w.heap.size v v'
        | .bad q => (∃ hx, e = .returned (.tuple #[hdA hx, .bool false])) ∧ ∃ v', Blk w' b s q B L v') ∧ Turns b w w' := by
  have hpl : p ≤ s.data.toList.length := by rw [← size_list]; exact hp
  unfold Lk.partR
  cases hn : Lk.numR s.data.toList p with
  | bad q =>
    refine (bpart_none b s p q B L v w hs hp hK hn).mono ?_
    rintro e w' ⟨h1, h2, h3⟩
    exact ⟨⟨h1, v, h2⟩, h3⟩
  | ok n q =>
    have hq := Lk.numR_ge hpl hn
    rw [← size_list] at hq
    simp only
    by_cases h2 : n % 2 = 0
    · rw [if_pos h2]
      refine (bpart_even b s p n q B L v w hs hp hK hn h2).mono ?_
      rintro e w' ⟨rfl, h1, h3⟩
      unfold Lk.entR at h1 ⊢
      cases he : (Lk.ents L)[n / 2]? with
      | none => rw [he] at h1; exact ⟨⟨⟨_, rfl⟩, v, h1⟩, h3⟩
      | some h => rw [he] at h1; exact ⟨⟨rfl, hq.1, hq.2, v, h1, .inl rfl⟩, h3⟩
    · rw [if_neg h2]
      have hfl := fun h q' => Lk.freshR_len (L := L) (k := n / 2) (s := s.data.toList) (p := q) (h := h) (q := q') hK.le hK.hB (by rw [← size_list]; omega)
      have hfg := fun h q' => Lk.freshR_ge (L := L) (k := n / 2) (s := s.data.toList) (p := q) (h := h) (q := q') (by rw [← size_list]; omega)
      refine (bpart_odd b s p n q B L v w hs hp hK hn (by omega)).mono ?_
      rintro e w' ⟨⟨hx, rfl, hh⟩, ⟨v', h1, hN⟩, h3⟩
      cases hf : Lk.freshR L (n / 2) s.data.toList q with
      | bad q' => rw [hf] at h1; exact ⟨⟨⟨_, rfl⟩, v', h1⟩, h3⟩
      | ok h q' =>
        obtain rfl := hh h q' hf
        have h5 := (hfl hx q' hf).2.2
        have h6 := hfg hx q' hf
        rw [← size_list] at h5
        rw [hf] at h1
        exact ⟨⟨rfl, by omega, h5, v', h1, hN⟩, h3⟩

theorem Blk.grown {w w' : World} {b : Nat} {s : ByteArray} {p B : Nat} {L : List Lk.Hd} {v : Value} {row : Option Nat} (h : Blk w b s p B L v) (hg : w.grownBy w' row) (h1 : some b ≠ row) (h2 : v.ownBlock = none ∨ v.ownBlock ≠ row) (h3 : some 0 ≠ row) : Blk w' b s p B L v :=
  ⟨h.blk.grown hg h1, h.own.kept hg h2, h.le, h.hB, h.fx.grown hg h3, h.b0⟩
theorem Blk.drewN {w : World} {b : Nat} {s : ByteArray} {p B : Nat} {L : List Lk.Hd} {v : Value} (h : Blk w b s p B L v) (n : Nat) : Blk (w.drewN n) b s p B L v := ⟨h.blk, h.own, h.le, h.hB, h.fx, h.b0⟩

theorem own_form {w : World} {B : Nat} {e : TypeId} {size n : Nat} {v : Value} {xs : List Value} (h : w.ownsRow B e size v n xs) : ∃ a cap, v = .slice a n cap := by
  rcases h.2 with ⟨rfl, rfl⟩ | ⟨g, cap, cur, rfl, _⟩
  · exact ⟨_, _, rfl⟩
  · exact ⟨_, _, rfl⟩

namespace Lk
def pre (hs : List Hd) : XR → XR
  | .ok l L => .ok (hs ++ l) L
  | .err e p => .err e p
end Lk

def HPost (w : World) (b : Nat) (s : ByteArray) (B : Nat) (v : Value) (X : Lk.XR) (e : Ending) (w' : World) : Prop :=
  (match X with
    | .ok hs L2 => ∃ lv q v', e = .returned (.tuple #[lv, .int .i64 0]) ∧ w'.ownsRow w.heap.size 112 2 lv hs.length (hdsV hs) ∧ (Blk w' b s q B L2 v' ∧ NewOr w.heap.size v v') ∧ (lv.ownBlock = none ∨ lv.ownBlock ≠ v'.ownBlock) ∧ hs.length ≤ 6
    | .err ec q => e = .returned (.tuple #[.slice none 0 0, .int .i64 (ec : Int)]) ∧ ∃ L' v', Blk w' b s q B L' v') ∧ Turns b w w'

set_option maxHeartbeats 2000000 in
set_option maxRecDepth 100000 in
theorem bheaders_any (b : Nat) (s : ByteArray) (p B : Nat) (L : List Lk.Hd) (v : Value) (w : World) (hs : s.size ≤ 2 ^ 48) (hp : p ≤ s.size) (hK : Blk w b s p B L v) (X : Lk.XR) (HX : Hid (Lk.exR B s.data.toList 6 L p = X)) :
    Calls Tryz.prog 103 #[.pointer (some ⟨b, 0, none⟩)] w (HPost w b s B v X) := by
  obtain ⟨i, hi, hz0, hz1, hz2⟩ := info_parts info_hd
  have hsm : s.size ≤ maxLen := by unfold maxLen; omega
  have hsl := size_list s
  have HSL := hide hsl
  have HK := hide hK
  have h0w := hK.fx.1
  clear hK hsl
  go_enter Tryz.func103, Tryz.ntmps103
  go_wp2_with fail
  go_loopw [4] (fun u wr => ∃ (hd : List Lk.Hd) (p' : Nat) (L' : List Lk.Hd) (v' : Value), hd.length ≤ 6 ∧ p' ≤ s.size ∧ Hid (X = Lk.pre hd (Lk.exR B s.data.toList (6 - hd.length) L' p')) ∧ (Blk wr b s p' B L' v' ∧ NewOr w.heap.size v v') ∧ wr.ownsRow w.heap.size 112 2 u hd.length (hdsV hd) ∧ (u.ownBlock = none ∨ u.ownBlock ≠ v'.ownBlock) ∧ Turns b w wr) (fun u _ => 6 - sliceLen u)
  case atStart =>
    refine ⟨[], p, L, v, by simp, hp, ?_, ⟨unhide HK, .inl rfl⟩, World.ownsRow_nil _ _ _ _, .inl rfl, Turns.refl _ _⟩
    have := unhide HX
    rw [Hid, ← this]
    simp only [List.length_nil, Nat.sub_zero]
    cases Lk.exR B s.data.toList 6 L p <;> rfl
  case round =>
    obtain ⟨hd, p', L', v', hd6, hp', HE, ⟨hKr, hNr⟩, hown, hdis, hTr⟩ := hrel
    obtain ⟨a, cap, rfl⟩ := own_form hown
    by_cases hend : s.size ≤ p'
    · have hdec : decide (s.size ≤ p') = true := by simpa using hend
      have hXX : X = .ok hd L' := by
        rw [unhide HE]
        have e : Lk.exR B s.data.toList (6 - hd.length) L' p' = .ok [] L' := by
          cases 6 - hd.length <;> (rw [Lk.exR, if_pos (by rw [← unhide HSL]; exact hend)])
        rw [e]
        simp [Lk.pre]
      subst hXX
      go_wp2_with fail
      refine (ended_any b _ s p' _ _ hsm hKr.blk).mono ?_
      rintro e w1 ⟨rfl, nd, rfl⟩
      have HKr := hide hKr
      have HOr := hide hown
      clear hKr hown
      go_wp2_with fail
      go_ret2
      exact ⟨⟨_, p', v', rfl, unhide HOr, ⟨(unhide HKr).drewN nd, hNr⟩, hdis, hd6⟩, hTr.drewN nd⟩
    · have hdec : decide (s.size ≤ p') = false := by simpa using hend
      go_wp2_with fail
      refine (ended_any b _ s p' _ _ hsm hKr.blk).mono ?_
      rintro e w1 ⟨rfl, nd, rfl⟩
      have HKr := hide (hKr.drewN nd)
      have HOr : Hid ((wr.drewN nd).ownsRow w.heap.size 112 2 (.slice a hd.length cap) hd.length (hdsV hd)) := hown
      have hTn := hTr.drewN nd
      have hBlkr := hide hKr
      clear hKr hown hTr
      by_cases h6 : hd.length = 6
      · have h6' : ((hd.length : Int) == 6) = true := by rw [beq_iff_eq]; omega
        have hXX : X = .err 8 p' := by
          rw [unhide HE, h6]
          simp only [Nat.sub_self]
          rw [Lk.exR, if_neg (by rw [← unhide HSL]; exact hend)]
          rfl
        subst hXX
        go_wp2_with fail
        go_ret2
        exact ⟨⟨rfl, L', v', unhide HKr⟩, hTn⟩
      · have h6' : ((hd.length : Int) == 6) = false := by rw [beq_eq_false_iff_ne]; omega
        have hXX : X = Lk.pre hd (match Lk.partR B L' s.data.toList p' with
            | .bad q => .err 9 q
            | .ok hl q => match Lk.exR B s.data.toList (6 - (hd.length + 1)) hl.2 q with
              | .ok hs L2 => .ok (hl.1 :: hs) L2
              | .err e q => .err e q) := by
          rw [unhide HE]
          have e : 6 - hd.length = (6 - (hd.length + 1)) + 1 := by omega
          rw [e, Lk.exR, if_neg (by rw [← unhide HSL]; exact hend)]
          rfl
        have HXX := hide hXX
        have HC := hide (bpart_any b s p' B L' v' _ hs hp' (unhide HKr))
        clear hXX
        go_wp2_with fail
        refine (unhide HC).mono ?_
        rintro e w2 ⟨hm, hT2⟩
        have ho2 := own_turns (unhide HOr) (unhide HKr).blk (Nat.ne_of_beq_eq_false rfl) hT2
        have hTn2 := hTn.trans hT2
        cases hpr : Lk.partR B L' s.data.toList p' with
        | bad q =>
          rw [hpr] at hm
          obtain ⟨⟨hx, rfl⟩, v2, hK2⟩ := hm
          have hX2 := unhide HXX
          rw [hpr] at hX2
          simp only [Lk.pre] at hX2
          subst hX2
          have HK2 := hide hK2
          clear hK2 ho2
          go_wp2_with fail
          go_ret2
          exact ⟨⟨rfl, L', v2, (unhide HK2).alloc _⟩, hTn2.alloc _⟩
        | ok hl q =>
          rw [hpr] at hm
          obtain ⟨rfl, hpq, hq, v2, hK2, hN2⟩ := hm
          have hlt : ∀ k, (Value.slice a hd.length cap).ownBlock = some k → k < (wr.drewN nd).heap.size := fun k hk => ((unhide HOr).lt k hk).2
          have hdis2 : (Value.slice a hd.length cap).ownBlock = none ∨ (Value.slice a hd.length cap).ownBlock ≠ v2.ownBlock := by
            rcases hN2 with rfl | hN2
            · exact hdis
            · cases hv : (Value.slice a hd.length cap).ownBlock with
              | none => exact .inl rfl
              | some k => exact .inr (fun e => by have h1 := hN2 k e.symm; have h2 := hlt k hv; omega)
          have hX2 := unhide HXX
          rw [hpr] at hX2
          have HX2 := hide hX2
          have HK2 := hide hK2
          have HO2 := hide ho2
          have hs2 := hTn2.size
          clear hK2 ho2 hX2
          go_wp2_with (at_builtin; refine wpList_append_lies _ rfl _ _ 42 rfl w.heap.size 112 i _ 2 32 Tryz.underlying42 hi hz0 hz1 hz2 rfl (by decide) _ hd.length (hdsV hd) rfl (((unhide HO2).alloc _).alloc _) ⟨w2.heap.size + 1, 0, none⟩ 1 1 (hdV hl.1) rfl rfl ?hnews ?h1 (by decide) ?h63 ?hby ?hba _ rfl ?_)
          case hnews =>
            have := row_cells (built_hd (w2.alloc (.cells #[.string (bs hl.1.n), .string (bs hl.1.v)] 112)) 112 hl.1)
            simpa using this
          case h1 => simp [hdV, Value.oneCell']
          case h63 => unfold maxLen; omega
          case hby => omega
          case hba => first | omega | (simp; omega)
          intro g1 cap1 w3 ho3 hg3 hor3 hlt3
          have hKa := ((unhide HK2).alloc (.cells #[.string (bs hl.1.n), .string (bs hl.1.v)] 112)).alloc (.cells #[.string (bs hl.1.n), .string (bs hl.1.v)] 112)
          have hOa := ((unhide HO2).alloc (.cells #[.string (bs hl.1.n), .string (bs hl.1.v)] 112)).alloc (.cells #[.string (bs hl.1.n), .string (bs hl.1.v)] 112)
          have hrow : ∀ k, (Value.slice a hd.length cap).ownBlock = some k → w.heap.size ≤ k := fun k hk => ((unhide HO2).lt k hk).1
          have hdv : v2.ownBlock = none ∨ v2.ownBlock ≠ (Value.slice a hd.length cap).ownBlock := by
            cases hv : v2.ownBlock with
            | none => exact .inl rfl
            | some k =>
              right
              rcases hdis2 with h | h
              · rw [h]; simp
              · rw [hv] at h; exact fun e => h e.symm
          have hK3 := hKa.grown hg3 (own_ne hOa hKa.blk (Nat.ne_of_beq_eq_false rfl)) hdv (fun e => by have := hrow 0 e.symm; omega)
          have hT3 := ((hTn2.alloc (.cells #[.string (bs hl.1.n), .string (bs hl.1.v)] 112)).alloc (.cells #[.string (bs hl.1.n), .string (bs hl.1.v)] 112)).grownNew hg3 hrow
          have hdis3 : (Value.slice (some ⟨g1, 0, none⟩) (hd.length + 1) cap1).ownBlock = none ∨ (Value.slice (some ⟨g1, 0, none⟩) (hd.length + 1) cap1).ownBlock ≠ v2.ownBlock := by
            right
            show some g1 ≠ v2.ownBlock
            intro e
            rcases hor3 with h | h
            · rcases hdis2 with h' | h'
              · rw [h'] at h; cases h
              · exact h' (h.trans e)
            · have := ((unhide HK2).own.lt g1 e.symm).2
              omega
          have ho3' : w3.ownsRow w.heap.size 112 2 (.slice (some ⟨g1, 0, none⟩) (hd.length + 1) cap1) (hd ++ [hl.1]).length (hdsV (hd ++ [hl.1])) := by
            rw [hdsV_append]
            simpa [hdsV] using ho3
          have HX3 : Hid (X = Lk.pre (hd ++ [hl.1]) (Lk.exR B s.data.toList (6 - (hd ++ [hl.1]).length) hl.2 q)) := by
            have e := unhide HX2
            rw [Hid, e, List.length_append, List.length_singleton]
            cases Lk.exR B s.data.toList (6 - (hd.length + 1)) hl.2 q <;> simp [Lk.pre]
          have HK3 := hide hK3
          have HO3 := hide ho3'
          clear ho3 hg3 hKa hOa hK3 ho3' hor3 hdv
          go_wp2_with fail
          go_roundw
          case rel => exact ⟨hd ++ [hl.1], q, hl.2, v2, by simp; omega, hq, HX3, ⟨unhide HK3, hNr.trans hN2 (by have := hTn.size; exact this)⟩, unhide HO3, hdis3, hT3⟩
          case measure => simp [sliceLen]; omega
end Go.Proofs.YtbkpdapagfjmmaaGreatDoor

/-
  Walks: Expand.
-/
namespace Go.Proofs.YtbkpdapagfjmmaaGreatDoor
open Go.RowKit

def XPost (w : World) (t B : Nat) (X : Lk.XR) (e : Ending) (w' : World) : Prop :=
  match X with
  | .ok hs L2 => (∃ lv v', e = .returned (.tuple #[lv, .int .i64 0, .int .i64 0]) ∧ w'.ownsRow w.heap.size 112 2 lv hs.length (hdsV hs) ∧ Tab w' t B L2 v' ∧ (lv.ownBlock = none ∨ lv.ownBlock ≠ v'.ownBlock) ∧ hs.length ≤ 6) ∧ Turns t w w'
  | .err ec q => e = .returned (.tuple #[.slice none 0 0, .int .i64 (ec : Int), .int .i64 (q : Int)]) ∧ Below w.heap.size w w'

namespace Lk
theorem exR_err (B : Nat) (s : Bs) : ∀ (n : Nat) (L : List Hd) (p e q : Nat), exR B s n L p = .err e q → e = 8 ∨ e = 9
  | 0, L, p, e, q, h => by
    rw [exR] at h
    split at h
    · cases h
    · cases h; exact .inl rfl
  | n + 1, L, p, e, q, h => by
    rw [exR] at h
    split at h
    · cases h
    · cases hp : partR B L s p with
      | bad q' => rw [hp] at h; cases h; exact .inr rfl
      | ok hl q' =>
        rw [hp] at h
        simp only at h
        cases hx : exR B s n hl.2 q' with
        | ok a b => rw [hx] at h; cases h
        | err e' q2 =>
          rw [hx] at h
          cases h
          exact exR_err B s n hl.2 q' _ _ hx
end Lk

set_option maxHeartbeats 1000000 in
set_option maxRecDepth 100000 in
theorem expand_any (t B : Nat) (L : List Lk.Hd) (v : Value) (s : ByteArray) (w : World) (hs : s.size ≤ 2 ^ 48) (hT : Tab w t B L v) (hfx : Fx w) (X : Lk.XR) (HX : Hid (Lk.exR B s.data.toList 6 L 0 = X)) :
    Calls Tryz.prog 62 #[.pointer (some ⟨t, 0, none⟩), .string s] w (XPost w t B X) := by
  obtain ⟨va, vcap, hv⟩ := own_form hT.own
  generalize hvn : L.length = vn at hv
  subst hv
  have h0 := hfx.1
  have HVN := hide hvn
  clear hvn
  have hI0 := Is.new w 208 [.string s, .int .i64 0, weighV, .int .i64 ((B : Int) - Lk.weights L), .slice va vn vcap]
  have hb0 := (Below.refl w.heap.size w).alloc (Nat.le_refl _) (.cells #[.string s, .int .i64 0, weighV, .int .i64 ((B : Int) - Lk.weights L), .slice va vn vcap] 208)
  have hK0 : Blk (w.alloc (.cells #[.string s, .int .i64 0, weighV, .int .i64 ((B : Int) - Lk.weights L), .slice va vn vcap] 208)) w.heap.size s 0 B L (.slice va vn vcap) :=
    ⟨hI0, hT.own.alloc _, hT.le, hT.hB, hfx.below hb0 h0, by omega⟩
  have HC := hide (bheaders_any w.heap.size s 0 B L (.slice va vn vcap) _ hs (Nat.zero_le _) hK0 X HX)
  have c0 := hT.blk.cell 0
  have c1 := hT.blk.cell 1
  have c2 := hT.blk.cell 2
  simp only [List.getElem?_cons_zero, List.getElem?_cons_succ] at c0 c1 c2
  have htl := hT.blk.lt
  have HT := hide hT
  have HB0 := hide hb0
  clear hI0 hK0 hT hb0
  go_enter Tryz.func62, Tryz.ntmps62
  go_wp2_with fail
  refine (unhide HC).mono ?_
  rintro e w1 ⟨hm, hT1⟩
  have hbel : Below w.heap.size w w1 := Turns.toBelow (unhide HB0) hT1 (Nat.le_refl _) (by simp)
  cases X with
  | err ec q =>
    obtain ⟨rfl, L', v', hK1⟩ := hm
    have hec : ((ec : Int) != 0) = true := by
      rw [bne_iff_ne]
      rcases Lk.exR_err _ _ _ _ _ _ _ (unhide HX) with rfl | rfl <;> decide
    have d1 := hK1.blk.cell 1
    simp only [List.getElem?_cons_zero, List.getElem?_cons_succ] at d1
    clear hK1
    go_wp2_with fail
    go_quiet (fail)
    go_wp2_with fail
    go_ret3
    exact ⟨rfl, Below.drewN hbel _⟩
  | ok hl L2 =>
    obtain ⟨lv, q, v', rfl, ho1, ⟨hK1, _⟩, hdis, hl6⟩ := hm
    obtain ⟨wa, wcap, hv'⟩ := own_form hK1.own
    generalize hwn : L2.length = wn at hv'
    subst hv'
    clear hwn
    have hTab1 := (unhide HT).below hbel
    have hne : t ≠ w.heap.size := by omega
    have d2 := hK1.blk.cell 2
    have d3 := hK1.blk.cell 3
    have d4 := hK1.blk.cell 4
    have e0 := hTab1.blk.cell 0
    have e1 := hTab1.blk.cell 1
    have e2 := hTab1.blk.cell 2
    have f0 := hTab1.blk.free 0
    have f1 := hTab1.blk.free 1
    have f2 := hTab1.blk.free 2
    simp only [List.getElem?_cons_zero, List.getElem?_cons_succ] at d2 d3 d4 e0 e1 e2
    have HK1 := hide hK1
    have HTab1 := hide hTab1
    have HO1 := hide ho1
    clear hK1 hTab1 ho1
    go_wp2_with fail
    go_ret3
    have hTT := (((Below.turns hbel t).set 0 weighV).set 1 (.int .i64 ((B : Int) - Lk.weights L2))).set 2 (.slice wa wn wcap)
    have hg : w1.grownBy _ (some t) := (((Turns.refl t w1).set 0 weighV).set 1 (.int .i64 ((B : Int) - Lk.weights L2))).set 2 (.slice wa wn wcap)
    have hob := own_base (B := w.heap.size) (by simp) (unhide HO1)
    refine ⟨⟨lv, _, rfl, own_turns hob (unhide HTab1).blk (Nat.ne_of_beq_eq_false rfl) hg, ⟨?_, own_turns (unhide HK1).own (unhide HTab1).blk (Nat.ne_of_beq_eq_false rfl) hg, (unhide HK1).le, (unhide HK1).hB⟩, hdis, hl6⟩, hTT⟩
    exact (((unhide HTab1).blk.set 0 weighV).set 1 (.int .i64 ((B : Int) - Lk.weights L2))).set 2 (.slice wa wn wcap)
end Go.Proofs.YtbkpdapagfjmmaaGreatDoor

/-
  Walks: Expand, of a table that lies within something.
-/
namespace Go.Proofs.YtbkpdapagfjmmaaGreatDoor
open Go.RowKit

def YPost (w : World) (t o : Nat) (T : TypeId) (cs : List Value) (B : Nat) (v : Value) (X : Lk.XR) (e : Ending) (w' : World) : Prop :=
  match X with
  | .ok hs L2 => (∃ lv v', e = .returned (.tuple #[lv, .int .i64 0, .int .i64 0]) ∧ w'.ownsRow w.heap.size 112 2 lv hs.length (hdsV hs) ∧ Is w' t T (((cs.set o weighV).set (o + 1) (.int .i64 ((B : Int) - Lk.weights L2))).set (o + 2) v') ∧ w'.ownsRow 0 112 2 v' L2.length (hdsV L2) ∧ NewOr w.heap.size v v' ∧ Lk.weights L2 ≤ B ∧ (lv.ownBlock = none ∨ lv.ownBlock ≠ v'.ownBlock) ∧ hs.length ≤ 6) ∧ Turns t w w'
  | .err ec q => e = .returned (.tuple #[.slice none 0 0, .int .i64 (ec : Int), .int .i64 (q : Int)]) ∧ Below w.heap.size w w'

set_option maxHeartbeats 1000000 in
set_option maxRecDepth 100000 in
theorem expand_at (t o B : Nat) (T : TypeId) (cs : List Value) (L : List Lk.Hd) (v : Value) (s : ByteArray) (w : World) (hs : s.size ≤ 2 ^ 48) (hI : Is w t T cs) (hT : T ≠ 112) (k0 : cs[o]? = some weighV) (k1 : cs[o + 1]? = some (.int .i64 ((B : Int) - Lk.weights L))) (k2 : cs[o + 2]? = some v) (own : w.ownsRow 0 112 2 v L.length (hdsV L)) (hle : Lk.weights L ≤ B) (hB : B ≤ 200) (hfx : Fx w) (X : Lk.XR) (HX : Hid (Lk.exR B s.data.toList 6 L 0 = X)) :
    Calls Tryz.prog 62 #[.pointer (some ⟨t, o, none⟩), .string s] w (YPost w t o T cs B v X) := by
  obtain ⟨va, vcap, hv⟩ := own_form own
  generalize hvn : L.length = vn at hv
  subst hv
  have h0 := hfx.1
  have HVN := hide hvn
  clear hvn
  have hI0 := Is.new w 208 [.string s, .int .i64 0, weighV, .int .i64 ((B : Int) - Lk.weights L), .slice va vn vcap]
  have hb0 := (Below.refl w.heap.size w).alloc (Nat.le_refl _) (.cells #[.string s, .int .i64 0, weighV, .int .i64 ((B : Int) - Lk.weights L), .slice va vn vcap] 208)
  have hK0 : Blk (w.alloc (.cells #[.string s, .int .i64 0, weighV, .int .i64 ((B : Int) - Lk.weights L), .slice va vn vcap] 208)) w.heap.size s 0 B L (.slice va vn vcap) :=
    ⟨hI0, own.alloc _, hle, hB, hfx.below hb0 h0, by omega⟩
  have HC := hide (bheaders_any w.heap.size s 0 B L (.slice va vn vcap) _ hs (Nat.zero_le _) hK0 X HX)
  have c0 : w.cell? ⟨t, o, none⟩ = some weighV := by rw [hI.cell]; exact k0
  have c1 : w.cell? ⟨t, o + 1, none⟩ = some (.int .i64 ((B : Int) - Lk.weights L)) := by rw [hI.cell]; exact k1
  have c2 : w.cell? ⟨t, o + 2, none⟩ = some (.slice va vn vcap) := by rw [hI.cell]; exact k2
  have htl := hI.lt
  have HI := hide hI
  have HB0 := hide hb0
  have HKK := hide (⟨k0, k1, k2⟩ : _ ∧ _ ∧ _)
  clear hI0 hK0 hI hb0 own k0 k1 k2
  go_enter Tryz.func62, Tryz.ntmps62
  go_wp2_with fail
  refine (unhide HC).mono ?_
  rintro e w1 ⟨hm, hT1⟩
  have hbel : Below w.heap.size w w1 := Turns.toBelow (unhide HB0) hT1 (Nat.le_refl _) (by simp)
  cases X with
  | err ec q =>
    obtain ⟨rfl, L', v', hK1⟩ := hm
    have hec : ((ec : Int) != 0) = true := by
      rw [bne_iff_ne]
      rcases Lk.exR_err _ _ _ _ _ _ _ (unhide HX) with rfl | rfl <;> decide
    have d1 := hK1.blk.cell 1
    simp only [List.getElem?_cons_zero, List.getElem?_cons_succ] at d1
    clear hK1
    go_wp2_with fail
    go_quiet (fail)
    go_wp2_with fail
    go_ret3
    exact ⟨rfl, Below.drewN hbel _⟩
  | ok hl L2 =>
    obtain ⟨lv, q, v', rfl, ho1, ⟨hK1, hN1⟩, hdis, hl6⟩ := hm
    obtain ⟨wa, wcap, hv'⟩ := own_form hK1.own
    generalize hwn : L2.length = wn at hv'
    subst hv'
    clear hwn
    have hI1 := (unhide HI).below hbel htl
    have hne : t ≠ w.heap.size := by omega
    have d2 := hK1.blk.cell 2
    have d3 := hK1.blk.cell 3
    have d4 := hK1.blk.cell 4
    obtain ⟨k0, k1, k2⟩ := unhide HKK
    have e0 : w1.cell? ⟨t, o, none⟩ = some weighV := by rw [hI1.cell]; exact k0
    have e1 : w1.cell? ⟨t, o + 1, none⟩ = some (.int .i64 ((B : Int) - Lk.weights L)) := by rw [hI1.cell]; exact k1
    have e2 : w1.cell? ⟨t, o + 2, none⟩ = some (.slice va vn vcap) := by rw [hI1.cell]; exact k2
    have f0 := hI1.free o
    have f1 := hI1.free (o + 1)
    have f2 := hI1.free (o + 2)
    have htl1 := hI1.lt
    simp only [List.getElem?_cons_zero, List.getElem?_cons_succ] at d2 d3 d4
    have HK1 := hide hK1
    have HI1 := hide hI1
    have HO1 := hide ho1
    clear hK1 hI1 ho1 k0 k1 k2
    go_wp2_with fail
    go_ret3
    have hTT := (((Below.turns hbel t).set o weighV).set (o + 1) (.int .i64 ((B : Int) - Lk.weights L2))).set (o + 2) (.slice wa wn wcap)
    have hg : w1.grownBy _ (some t) := (((Turns.refl t w1).set o weighV).set (o + 1) (.int .i64 ((B : Int) - Lk.weights L2))).set (o + 2) (.slice wa wn wcap)
    have hob := own_base (B := w.heap.size) (by simp) (unhide HO1)
    refine ⟨⟨lv, _, rfl, own_turns hob (unhide HI1) hT hg, ?_, own_turns (unhide HK1).own (unhide HI1) hT hg, hN1.mono (by simp), (unhide HK1).le, hdis, hl6⟩, hTT⟩
    exact (((unhide HI1).set o weighV).set (o + 1) (.int .i64 ((B : Int) - Lk.weights L2))).set (o + 2) (.slice wa wn wcap)
end Go.Proofs.YtbkpdapagfjmmaaGreatDoor

/-
  Walks: what an end does with a head.
-/
namespace Go.Proofs.YtbkpdapagfjmmaaGreatDoor
open Go.RowKit

/-- The table for receiving has turned. -/
theorem Live.tabOp {w w' : World} {b : Nat} {e : Lk.En} {d : PD} {L : List Lk.Hd} {v' : Value} (h : Live w b e d) (hI : Is w' b 101 ((((ecOf e d).cells.set 11 weighV).set 12 (.int .i64 (((100 : Nat) : Int) - Lk.weights L))).set 13 v')) (hO : Turns b w w') (hv : w'.ownsRow 0 112 2 v' L.length (hdsV L)) (hN : NewOr w.heap.size d.iv v') (hle : Lk.weights L ≤ 100) :
    Live w' b { e with inn := L } { d with iv := v' } ∧ (∀ i, foot b { d with iv := v' } i → foot b d i ∨ w.heap.size ≤ i) ∧ Only (foot b d) w w' := by
  have hOn := Only.of_turns hO
  have hs := h.sepRow
  have hw := h.wf
  have hf : ∀ i, foot b { d with iv := v' } i → foot b d i ∨ w.heap.size ≤ i := by
    intro i hi
    rcases hi with hi | hi | hi | hi | hi | hi | hi | hi
    · exact .inl (.inl hi)
    · exact .inl (.inr (.inl hi))
    · rcases hN with h' | h'
      · exact .inl (.inr (.inr (.inl (by rw [← h']; exact hi))))
      · exact .inr (h' i hi)
    · exact .inl (.inr (.inr (.inr (.inl hi))))
    · exact .inl (.inr (.inr (.inr (.inr (.inl hi)))))
    · exact .inl (.inr (.inr (.inr (.inr (.inr (.inl hi))))))
    · exact .inl (.inr (.inr (.inr (.inr (.inr (.inr (.inl hi)))))))
    · exact .inl (.inr (.inr (.inr (.inr (.inr (.inr (.inr hi)))))))
  refine ⟨⟨h.rw.cell (c' := ecOf { e with inn := L } { d with iv := v' }) hI hOn rfl, h.rowe, h.good, ?_, hv, ?_, ?_, h.psn, h.ps4, ?_, h.mn, ?_, h.none, h.inj, ⟨hw.side, hw.win1, hw.win2, hw.out, hle, fun i o ho => by obtain ⟨a, b, c, d⟩ := hw.own i o ho; exact ⟨a, b, c, d⟩, fun i o ho => by obtain ⟨a, b, c, d, f⟩ := hw.oth i o ho; exact ⟨a, b, c, d, f⟩, hw.all, hw.room, hw.row, hw.rest⟩, fun i hi => ?_⟩, hf, hOn.mono (fun i hi => .inl hi)⟩
  · exact own_only h.out hOn (fun i hi hx => (hs i (.inl hx)).1 hi)
  · exact own_only h.sl hOn (fun i hi hx => (hs i (.inl hx)).2.2.1 hi)
  · exact h.outs.only hOn (fun p hp hx => (hs p (.inl hx)).2.2.2.1 hp)
  · exact h.map.only hOn (fun hx => (hs _ (.inl hx)).2.2.2.2.1 rfl)
  · exact fun i o ho => (h.oths i o ho).only hOn (fun p hp hx => (hs p (.inl hx)).2.2.2.2.2 _ hp)
  · rcases hf i hi with h' | h'
    · exact h.pos i h'
    · have := h.pos b (.inl rfl)
      have := h.rw.lt
      omega

/-- The next stream of the other end begins. -/
theorem Live.headOp {w w' : World} {b p : Nat} {e : Lk.En} {d : PD} (h : Live w b e d) (hp : w.heap.size ≤ p) (hI : Is w' p 227 (inV (e.win : Int) 0 false false)) (hR : Rw w' b { ecOf e d with inext := (nextOth e : Int) + 2 } d.fs) (hM : MapIs Tryz.prog 3 w' d.mb (d.mn + 1) (fun x => if x = (nextOth e : Int) then some p else d.ins x)) (hO : Only (fun i => i = b ∨ i = d.mb) w w')
    (hW : Lk.Wf { e with oth := e.oth ++ [⟨nextOth e, e.win, 0, true, false⟩] }) :
    Live w' b { e with oth := e.oth ++ [⟨nextOth e, e.win, 0, true, false⟩] } { d with mn := d.mn + 1, ins := fun x => if x = (nextOth e : Int) then some p else d.ins x } ∧ (∀ i, foot b { d with mn := d.mn + 1, ins := fun x => if x = (nextOth e : Int) then some p else d.ins x } i → foot b d i ∨ w.heap.size ≤ i) ∧ Only (foot b d) w w' := by
  have hs := h.sepRow
  have hmb : ∀ (v : Value) (n : Nat) (T : TypeId) (k : Nat) (xs : List Value), w.ownsRow 0 T k v n xs → v.ownBlock ≠ some d.mb := fun v n T k xs ho => h.map.ne_own ho
  have hold : ∀ k q, d.ins k = some q → q < w.heap.size := fun k q hq => h.lt q (.inr (.inr (.inr (.inr (.inr (.inr (.inr ⟨k, hq⟩)))))))
  have hidne : ∀ (i : Nat) (o : Lk.Ot), e.oth[i]? = some o → o.id ≠ nextOth e := fun i o ho hx => by
    have h1 := (h.wf.oth i o ho).id
    have h2 := (List.getElem?_eq_some_iff.1 ho).1
    unfold nextOth at hx
    have := h.wf.side
    omega
  have hf : ∀ i, foot b { d with mn := d.mn + 1, ins := fun x => if x = (nextOth e : Int) then some p else d.ins x } i → foot b d i ∨ w.heap.size ≤ i := by
    intro i hi
    rcases hi with hi | hi | hi | hi | hi | hi | hi | ⟨k, hi⟩
    · exact .inl (.inl hi)
    · exact .inl (.inr (.inl hi))
    · exact .inl (.inr (.inr (.inl hi)))
    · exact .inl (.inr (.inr (.inr (.inl hi))))
    · exact .inl (.inr (.inr (.inr (.inr (.inl hi)))))
    · exact .inl (.inr (.inr (.inr (.inr (.inr (.inl hi))))))
    · exact .inl (.inr (.inr (.inr (.inr (.inr (.inr (.inl hi)))))))
    · simp only at hi
      split at hi
      · simp at hi; subst hi; exact .inr hp
      · exact .inl (.inr (.inr (.inr (.inr (.inr (.inr (.inr ⟨k, hi⟩)))))))
  have hno : ∀ x, (x = b ∨ x = d.mb) → x ≠ b → x ≠ d.mb → False := fun x hx h1 h2 => by
    rcases hx with hx | hx
    · exact h1 hx
    · exact h2 hx
  have hrw : Rw w' b (ecOf { e with oth := e.oth ++ [⟨nextOth e, e.win, 0, true, false⟩] } { d with mn := d.mn + 1, ins := fun x => if x = (nextOth e : Int) then some p else d.ins x }) d.fs := by
    have : ({ ecOf e d with inext := (nextOth e : Int) + 2 } : EC) = ecOf { e with oth := e.oth ++ [⟨nextOth e, e.win, 0, true, false⟩] } { d with mn := d.mn + 1, ins := fun x => if x = (nextOth e : Int) then some p else d.ins x } := by
      have := h.wf.side
      simp [ecOf, nextOth, Lk.En.nextId]
      omega
    rw [← this]
    exact hR
  refine ⟨⟨hrw, h.rowe, h.good, ?_, ?_, ?_, ?_, h.psn, h.ps4, hM, by show d.mn + 1 ≤ (e.oth ++ [_]).length; have := h.mn; simp; omega, ?_, ?_, ?_, hW, fun i hi => ?_⟩, hf, hO.mono (fun i hi => ?_)⟩
  · exact own_only h.out hO (fun i hi hx => hno i hx (fun e => (hs i (.inl e)).1 hi) (fun e => hmb _ _ _ _ _ h.out (e ▸ hi)))
  · exact own_only h.inn hO (fun i hi hx => hno i hx (fun e => (hs i (.inl e)).2.1 hi) (fun e => hmb _ _ _ _ _ h.inn (e ▸ hi)))
  · exact own_only h.sl hO (fun i hi hx => hno i hx (fun e => (hs i (.inl e)).2.2.1 hi) (fun e => hmb _ _ _ _ _ h.sl (e ▸ hi)))
  · refine h.outs.only hO (fun q hq hx => hno q hx (fun e => (hs q (.inl e)).2.2.2.1 hq) (fun e => ?_))
    obtain ⟨_, hy⟩ := h.outs.mem hq
    exact h.map.ne hy e.symm
  · intro i o ho
    by_cases hi : i < e.oth.length
    · have ho' : e.oth[i]? = some o := by rw [← ho]; exact (List.getElem?_append_left hi).symm
      have hne := hidne i o ho'
      have hx : OthIs w (fun x => if x = (nextOth e : Int) then some p else d.ins x) o := by
        have := h.oths i o ho'
        unfold OthIs at this ⊢
        simp only
        rw [if_neg (by omega)]
        exact this
      refine hx.only hO (fun q hq hy => ?_)
      rw [if_neg (by omega)] at hq
      refine hno q hy (fun e => (hs q (.inl e)).2.2.2.2.2 _ hq) (fun e => ?_)
      obtain ⟨_, _, _, _, _, _, hz, _⟩ := h.inAt hq
      exact h.map.ne hz e.symm
    · have hi2 : i = e.oth.length := by
        have := (List.getElem?_eq_some_iff.1 ho).1
        simp at this
        omega
      subst hi2
      have ho' : (⟨nextOth e, e.win, 0, true, false⟩ : Lk.Ot) = o := by
        have := (List.getElem?_append_right (l₁ := e.oth) (l₂ := [⟨nextOth e, e.win, 0, true, false⟩]) (i := e.oth.length) (Nat.le_refl _)).symm.trans ho
        simpa using this
      subst ho'
      unfold OthIs
      simp only [if_true]
      exact ⟨by simp, (e.win : Int), false, by simpa using hI, fun _ => ⟨rfl, rfl⟩⟩
  · intro k hk
    have hk0 : (nextOth e : Int) ≠ k := hk e.oth.length ⟨nextOth e, e.win, 0, true, false⟩ (by simp)
    show (if k = (nextOth e : Int) then some p else d.ins k) = Option.none
    rw [if_neg (fun e => hk0 e.symm)]
    refine h.none k (fun i o ho => hk i o ?_)
    have := (List.getElem?_eq_some_iff.1 ho).1
    rw [List.getElem?_append_left this]
    exact ho
  · intro k k' q hk hk'
    simp only at hk hk'
    split at hk <;> split at hk'
    · omega
    · simp at hk; subst hk; have := hold k' _ hk'; omega
    · simp at hk'; subst hk'; have := hold k _ hk; omega
    · exact h.inj k k' q hk hk'
  · rcases hf i hi with h' | h'
    · exact h.pos i h'
    · have := h.pos b (.inl rfl)
      have := h.rw.lt
      omega
  · rcases hi with hi | hi
    · exact .inl hi
    · exact .inr (.inr (.inr (.inr (.inr (.inr (.inl hi))))))
end Go.Proofs.YtbkpdapagfjmmaaGreatDoor
