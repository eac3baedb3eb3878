import Derived.Test.YtbkpdapagfjmmaaGreatDoorMV1V2
import Derived.Test.YtbkpdapagfjmmaaGreatDoorMM1Spec4
/-
  Walks: a part of a block.
-/
namespace Go.Proofs.YtbkpdapagfjmmaaGreatDoor
open Go.RowKit

namespace Lk
theorem numR_le {s : Bs} {p n q : Nat} (h : numR s p = .ok n q) : n ≤ 268435455 := by
  unfold numR at h
  cases e : rd 0 0 (s.drop p) with
  | short => rw [e] at h; cases h
  | bad k => rw [e] at h; cases h
  | ok m k => rw [e] at h; cases h; exact (rd_canon0 e).2
theorem textR_at {name : Bool} {s : Bs} {p : Nat} (hp : p ≤ s.length) : p ≤ (textR name s p).at ∧ (textR name s p).at ≤ s.length := by
  cases h : textR name s p with
  | ok t q => have := textR_ge hp h; simp only [PR.at]; omega
  | bad q => have := textR_bad hp h; simp only [PR.at]; omega
theorem nameR_at {L : List Hd} {k : Nat} {s : Bs} {p : Nat} {t : Bs} {q : Nat} (hp : p ≤ s.length) (h : nameR L k s p = .ok t q) : p ≤ q ∧ q ≤ s.length := by
  unfold nameR at h
  split at h
  · have := textR_ge hp h; omega
  · unfold entR at h
    cases e : (ents L)[k - 1]? with
    | none => rw [e] at h; cases h
    | some x => rw [e] at h; cases h; omega
theorem freshR_len {L : List Hd} {k : Nat} {s : Bs} {p : Nat} {h : Hd} {q B : Nat} (hL : weights L ≤ B) (hB : B ≤ 200) (hp : p ≤ s.length) (hf : freshR L k s p = .ok h q) : h.n.length ≤ 200 ∧ h.v.length ≤ 32 ∧ q ≤ s.length := by
  unfold freshR at hf
  cases e : nameR L k s p with
  | bad q => rw [e] at hf; cases hf
  | ok n q1 =>
    rw [e] at hf
    have h1 := nameR_at hp e
    simp only at hf
    cases e2 : textR false s q1 with
    | bad q => rw [e2] at hf; cases hf
    | ok v q2 =>
      rw [e2] at hf
      have h2 := textR_ge h1.2 e2
      cases hf
      refine ⟨?_, h2.2.2, h2.2.1⟩
      unfold nameR at e
      split at e
      · have := textR_ge hp e; simp only; omega
      · unfold entR at e
        cases e3 : (ents L)[k - 1]? with
        | none => rw [e3] at e; cases e
        | some x =>
          rw [e3] at e
          cases e
          have hm := List.mem_of_getElem? e3
          unfold ents at hm
          rw [List.mem_append] at hm
          rcases hm with hm | hm
          · simp [fixedL] at hm
            rcases hm with rfl | rfl | rfl | rfl <;> simp
          · have := weights_mem hm
            unfold Hd.weight at this
            simp only
            omega
end Lk

set_option maxHeartbeats 1000000 in
set_option maxRecDepth 100000 in
theorem bname_zero (b : Nat) (s : ByteArray) (p B : Nat) (L : List Lk.Hd) (v : Value) (w : World) (hs : s.size ≤ 2 ^ 48) (hp : p ≤ s.size) (hK : Blk w b s p B L v) :
    Calls Tryz.prog 186 #[.pointer (some ⟨b, 0, none⟩), .int .i64 0] w fun e w' =>
      e = .returned (.tuple #[.string (bs (textOf (Lk.textR true s.data.toList p))), .bool (Lk.textR true s.data.toList p).good]) ∧ Blk w' b s (Lk.textR true s.data.toList p).at B L v ∧ Turns b w w' := by
  have HC := hide (fun w (hK : Blk w b s p B L v) => bwritten_name b s p B L v w hs hp hK)
  have HK := hide hK
  clear hK
  generalize Lk.textR true s.data.toList p = R at *
  go_enter Tryz.func186, Tryz.ntmps186
  go_wp2_with fail
  refine (nameRule_any _).mono ?_
  rintro e w1 ⟨rfl, hb⟩
  go_wp2_with fail
  refine (unhide HC _ ((unhide HK).below hb)).mono ?_
  rintro e w2 ⟨rfl, hK2, hT⟩
  go_wp2_with fail
  go_ret2
  exact ⟨rfl, hK2, (Below.turns hb b).trans hT⟩

set_option maxHeartbeats 1000000 in
set_option maxRecDepth 100000 in
theorem bname_ent (b : Nat) (s : ByteArray) (p k B : Nat) (L : List Lk.Hd) (v : Value) (w : World) (hk : 0 < k) (hk2 : k ≤ 2 ^ 40) (hp : 0 < p) (hps : p ≤ 2 ^ 50) (hK : Blk w b s p B L v) :
    Calls Tryz.prog 186 #[.pointer (some ⟨b, 0, none⟩), .int .i64 k] w fun e w' =>
      e = .returned (.tuple #[.string (bs (hdOf (Lk.entR L (k - 1) p)).n), .bool (Lk.entR L (k - 1) p).good]) ∧ Blk w' b s (Lk.entR L (k - 1) p).at B L v ∧ Turns b w w' := by
  have HC := hide (fun w (hK : Blk w b s p B L v) => bentry_any b s p (k - 1) B L v w (by omega) hp hps hK)
  have HK := hide hK
  have hk0 : ((k : Int) == 0) = false := by rw [beq_eq_false_iff_ne]; omega
  clear hK
  generalize Lk.entR L (k - 1) p = R at *
  rw [show ((k - 1 : Nat) : Int) = (k : Int) - 1 by omega] at HC
  go_enter Tryz.func186, Tryz.ntmps186
  go_wp2_with fail
  refine (unhide HC _ (unhide HK)).mono ?_
  rintro e w2 ⟨rfl, hK2, hT⟩
  go_wp2_with fail
  go_ret2
  exact ⟨rfl, hK2.alloc _, hT.alloc _⟩

def nameOf : Lk.PR Lk.Bs → Lk.Bs
  | .ok t _ => t
  | .bad _ => []
theorem bname_any (b : Nat) (s : ByteArray) (p k B : Nat) (L : List Lk.Hd) (v : Value) (w : World) (hs : s.size ≤ 2 ^ 48) (hk2 : k ≤ 2 ^ 40) (hp : 0 < p) (hps : p ≤ s.size) (hK : Blk w b s p B L v) :
    Calls Tryz.prog 186 #[.pointer (some ⟨b, 0, none⟩), .int .i64 k] w fun e w' =>
      e = .returned (.tuple #[.string (bs (nameOf (Lk.nameR L k s.data.toList p))), .bool (Lk.nameR L k s.data.toList p).good]) ∧ Blk w' b s (Lk.nameR L k s.data.toList p).at B L v ∧ Turns b w w' := by
  unfold Lk.nameR
  by_cases hk : k = 0
  · subst hk
    rw [if_pos rfl]
    refine (bname_zero b s p B L v w hs hps hK).mono ?_
    rintro e w' ⟨rfl, h1, h2⟩
    refine ⟨?_, h1, h2⟩
    cases Lk.textR true s.data.toList p <;> rfl
  · rw [if_neg hk]
    refine (bname_ent b s p k B L v w (by omega) hk2 hp (by omega) hK).mono ?_
    rintro e w' ⟨rfl, h1, h2⟩
    cases hr : Lk.entR L (k - 1) p with
    | ok h q => rw [hr] at h1; exact ⟨rfl, h1, h2⟩
    | bad q => rw [hr] at h1; exact ⟨rfl, h1, h2⟩

set_option maxHeartbeats 1000000 in
set_option maxRecDepth 100000 in
theorem bfresh_any (b : Nat) (s : ByteArray) (p k B : Nat) (L : List Lk.Hd) (v : Value) (w : World) (hs : s.size ≤ 2 ^ 48) (hk2 : k ≤ 2 ^ 40) (hp : 0 < p) (hps : p ≤ s.size) (hK : Blk w b s p B L v) :
    Calls Tryz.prog 179 #[.pointer (some ⟨b, 0, none⟩), .int .i64 k] w fun e w' =>
      (∃ hx, e = .returned (.tuple #[hdA hx, .bool (Lk.freshR L k s.data.toList p).good]) ∧ ∀ h q, Lk.freshR L k s.data.toList p = .ok h q → hx = h) ∧ Blk w' b s (Lk.freshR L k s.data.toList p).at B L v ∧ Turns b w w' := by
  have HK0 := hide (hK.alloc (.cells #[.string ⟨#[]⟩, .string ⟨#[]⟩] 112))
  have HX := hide (Is.new w 112 [.string ⟨#[]⟩, .string ⟨#[]⟩])
  have hT0 := (Turns.refl b w).alloc (.cells #[.string ⟨#[]⟩, .string ⟨#[]⟩] 112)
  have hbl := hK.blk.lt
  have HK := hide hK
  clear hK
  cases hn : Lk.nameR L k s.data.toList p with
  | bad q =>
    have hR : Lk.freshR L k s.data.toList p = .bad q := by unfold Lk.freshR; rw [hn]
    rw [hR]
    have hC := bname_any b s p k B L v _ hs hk2 hp hps (unhide HK0)
    rw [hn] at hC
    have HC := hide hC
    clear hC hR hn
    go_enter Tryz.func179, Tryz.ntmps179
    go_wp2_with fail
    refine (unhide HC).mono ?_
    rintro e w1 ⟨rfl, hK1, hT1⟩
    simp only [nameOf, Lk.PR.good, Lk.PR.at] at hK1 ⊢
    have hX1 := (unhide HX).grown hT1 (by simp; omega)
    have c0 := hX1.cell 0
    have c1 := hX1.cell 1
    have f0 := hX1.free 0
    have f1 := hX1.free 1
    have hXl := hX1.lt
    simp only [List.getElem?_cons_zero, List.getElem?_cons_succ] at c0 c1
    have HK1 := hide hK1
    clear hK1 hX1
    go_wp2_with fail
    have hTT := ((hT0.trans hT1).setFar (a := ⟨w.heap.size, 0, none⟩) (Nat.le_refl _) (.string (bs zeroHd.n))).setFar (a := ⟨w.heap.size, 1, none⟩) (Nat.le_refl _) (.string (bs zeroHd.v))
    refine bodyPost_ret (v := .tuple #[hdA zeroHd, .bool false]) (by simp [results, Tryz.results179, go_sem, c0, c1, zeroHd, bs]) rfl ⟨⟨zeroHd, rfl, fun h q e => by cases e⟩, (unhide HK).turns hTT ((((unhide HK1).blk.other _ _ (by simp; omega)).other _ _ (by simp; omega))), hTT⟩
  | ok t q =>
    have hqb := Lk.nameR_at (L := L) (k := k) (s := s.data.toList) (by rw [← size_list]; exact hps) hn
    rw [← size_list] at hqb
    have hC := bname_any b s p k B L v _ hs hk2 hp hps (unhide HK0)
    rw [hn] at hC
    have HC := hide hC
    have HC2 := hide (fun w (hK : Blk w b s q B L v) => bwritten_value b s q B L v w hs (by omega) hK)
    have hfr : (Lk.freshR L k s.data.toList p).good = (Lk.textR false s.data.toList q).good ∧ (Lk.freshR L k s.data.toList p).at = (Lk.textR false s.data.toList q).at ∧ ∀ h q', Lk.freshR L k s.data.toList p = .ok h q' → (⟨t, textOf (Lk.textR false s.data.toList q)⟩ : Lk.Hd) = h := by
      unfold Lk.freshR
      rw [hn]
      simp only
      cases Lk.textR false s.data.toList q with
      | bad q' => exact ⟨rfl, rfl, fun _ _ e => by cases e⟩
      | ok u q' => exact ⟨rfl, rfl, fun _ _ e => by cases e; rfl⟩
    obtain ⟨hg, ha, hh⟩ := hfr
    rw [hg, ha]
    have HH := hide hh
    clear hC hn hg ha hh
    generalize Lk.textR false s.data.toList q = R2 at *
    go_enter Tryz.func179, Tryz.ntmps179
    go_wp2_with fail
    refine (unhide HC).mono ?_
    rintro e w1 ⟨rfl, hK1, hT1⟩
    simp only [nameOf, Lk.PR.good, Lk.PR.at] at hK1 ⊢
    have hX1 := (unhide HX).grown hT1 (by simp; omega)
    have HX1 := hide hX1
    have HK1 := hide hK1
    clear hK1 hX1
    go_wp2_with fail
    refine (valueRule_any _).mono ?_
    rintro e w2 ⟨rfl, hb2⟩
    go_wp2_with fail
    refine (unhide HC2 _ ((unhide HK1).below hb2)).mono ?_
    rintro e w3 ⟨rfl, hK3, hT3⟩
    have hX3 := ((unhide HX1).below hb2 (unhide HX1).lt).grown hT3 (by simp; omega)
    have c0 := hX3.cell 0
    have c1 := hX3.cell 1
    have f0 := hX3.free 0
    have f1 := hX3.free 1
    have hXl := hX3.lt
    simp only [List.getElem?_cons_zero, List.getElem?_cons_succ] at c0 c1
    have hTT := ((((hT0.trans hT1).below hb2).trans hT3).setFar (a := ⟨w.heap.size, 0, none⟩) (Nat.le_refl _) (.string (bs t))).setFar (a := ⟨w.heap.size, 1, none⟩) (Nat.le_refl _) (.string (bs (textOf R2)))
    have HK3 := hide hK3
    clear hK3 hX3
    go_wp2_with fail
    refine bodyPost_ret (v := .tuple #[hdA ⟨t, textOf R2⟩, .bool R2.good]) (by simp [results, Tryz.results179, go_sem, c0, c1]) rfl ⟨⟨⟨t, textOf R2⟩, rfl, unhide HH⟩, (unhide HK).turns hTT ((((unhide HK3).blk.other _ _ (by simp; omega)).other _ _ (by simp; omega))), hTT⟩
end Go.Proofs.YtbkpdapagfjmmaaGreatDoor

/-
  Walks: a part of a block, whole.
-/
namespace Go.Proofs.YtbkpdapagfjmmaaGreatDoor
open Go.RowKit

theorem put_blk (b : Nat) (s : ByteArray) (p B : Nat) (L : List Lk.Hd) (v : Value) (h : Lk.Hd) (w : World) (hK : Blk w b s p B L v) (hn : h.n.length ≤ 200) (hv : h.v.length ≤ 100) :
    Calls Tryz.prog 171 #[.pointer (some ⟨b, 2, none⟩), hdA h] w fun e w' => e = .returned (.tuple #[]) ∧ (∃ v', Blk w' b s p B (Lk.put B L h) v' ∧ NewOr w.heap.size v v') ∧ Turns b w w' := by
  refine (put_any b 2 _ _ B 0 L h v _ w hK.blk (Nat.ne_of_beq_eq_false rfl) rfl rfl rfl hK.own hK.hB rfl hK.le hn hv).mono ?_
  rintro e w' ⟨rfl, ⟨v', ho, hI⟩, hT⟩
  exact ⟨rfl, ⟨v', ⟨hI, own_base (Nat.zero_le _) ho, Lk.put_weights B L h, hK.hB, hK.fx.grown hT (by simpa using hK.b0), hK.b0⟩, .inr (fun k hk => (ho.lt k hk).1)⟩, hT⟩

theorem Blk.drew {w : World} {b : Nat} {s : ByteArray} {p B : Nat} {L : List Lk.Hd} {v : Value} (h : Blk w b s p B L v) : Blk w.drew b s p B L v := ⟨h.blk, h.own, h.le, h.hB, h.fx, h.b0⟩

theorem Blk.far {w : World} {b H : Nat} {s : ByteArray} {p B : Nat} {L : List Lk.Hd} {v : Value} (h : Blk w b s p B L v) (hne : ∀ k, v.ownBlock = some k → k ≠ H) (hb : b ≠ H) (h0 : 0 ≠ H) (x y : Value) : Blk ((w.setCell ⟨H, 0, none⟩ x).setCell ⟨H, 1, none⟩ y) b s p B L v := by
  have hg : w.grownBy ((w.setCell ⟨H, 0, none⟩ x).setCell ⟨H, 1, none⟩ y) (some H) := ((Turns.refl H w).set 0 x).set 1 y
  refine ⟨(h.blk.other _ _ hb).other _ _ hb, h.own.kept hg ?_, h.le, h.hB, h.fx.grown hg (by simpa using h0), h.b0⟩
  cases hv : Value.ownBlock v with
  | none => exact .inl rfl
  | some k => exact .inr (by have := hne k hv; simpa using this)

theorem rem2 (n : Nat) : Int.tmod (n : Int) 2 = ((n % 2 : Nat) : Int) := by simp [Int.tmod]
theorem quo2 (n : Nat) : Int.tdiv (n : Int) 2 = ((n / 2 : Nat) : Int) := by simp [Int.tdiv]

set_option maxHeartbeats 1000000 in
set_option maxRecDepth 100000 in
theorem bpart_none (b : Nat) (s : ByteArray) (p q B : Nat) (L : List Lk.Hd) (v : Value) (w : World) (hs : s.size ≤ 2 ^ 48) (hp : p ≤ s.size) (hK : Blk w b s p B L v) (hn : Lk.numR s.data.toList p = .bad q) :
    Calls Tryz.prog 154 #[.pointer (some ⟨b, 0, none⟩)] w fun e w' => (∃ hx, e = .returned (.tuple #[hdA hx, .bool false])) ∧ Blk w' b s q B L v ∧ Turns b w w' := by
  have hK0 := hK.alloc (.cells #[.string ⟨#[]⟩, .string ⟨#[]⟩] 112)
  have HC := hide (number_no b _ s p q _ _ (by unfold maxLen; omega) hp hK0.blk hn)
  have HX := hide (Is.new w 112 [.string ⟨#[]⟩, .string ⟨#[]⟩])
  have hT0 := (Turns.refl b w).alloc (.cells #[.string ⟨#[]⟩, .string ⟨#[]⟩] 112)
  have hbl := hK.blk.lt
  have HK := hide hK
  clear hK hK0 hn
  go_enter Tryz.func154, Tryz.ntmps154
  go_wp2_with fail
  refine (unhide HC).mono ?_
  rintro e w1 ⟨rfl, hI1, hT1⟩
  have hX1 := (unhide HX).grown hT1 (by simp; omega)
  have c0 := hX1.cell 0
  have c1 := hX1.cell 1
  have f0 := hX1.free 0
  have f1 := hX1.free 1
  have hXl := hX1.lt
  simp only [List.getElem?_cons_zero, List.getElem?_cons_succ] at c0 c1
  have HI1 := hide hI1
  clear hI1 hX1
  have hTT := ((hT0.trans hT1).setFar (a := ⟨w.heap.size, 0, none⟩) (Nat.le_refl _) (.string (bs zeroHd.n))).setFar (a := ⟨w.heap.size, 1, none⟩) (Nat.le_refl _) (.string (bs zeroHd.v))
  go_wp2_with fail
  exact bodyPost_ret (v := .tuple #[hdA zeroHd, .bool false]) (by simp [results, Tryz.results154, go_sem, c0, c1, zeroHd, bs]) rfl ⟨⟨zeroHd, rfl⟩, (unhide HK).turns hTT ((((unhide HI1).other _ _ (by simp; omega)).other _ _ (by simp; omega))), hTT⟩

set_option maxHeartbeats 1000000 in
set_option maxRecDepth 100000 in
theorem bpart_even (b : Nat) (s : ByteArray) (p n q B : Nat) (L : List Lk.Hd) (v : Value) (w : World) (hs : s.size ≤ 2 ^ 48) (hp : p ≤ s.size) (hK : Blk w b s p B L v) (hn : Lk.numR s.data.toList p = .ok n q) (h2 : n % 2 = 0) :
    Calls Tryz.prog 154 #[.pointer (some ⟨b, 0, none⟩)] w fun e w' => e = .returned (.tuple #[hdA (hdOf (Lk.entR L (n / 2) q)), .bool (Lk.entR L (n / 2) q).good]) ∧ Blk w' b s (Lk.entR L (n / 2) q).at B L v ∧ Turns b w w' := by
  have hK0 := hK.alloc (.cells #[.string ⟨#[]⟩, .string ⟨#[]⟩] 112)
  have hq := Lk.numR_ge (by rw [← size_list]; exact hp) hn
  rw [← size_list] at hq
  have hnl := Lk.numR_le hn
  have HC := hide (number_ok b _ s p n q _ _ (by unfold maxLen; omega) hp hK0.blk hn)
  have HC2 := hide (fun w (hK : Blk w b s q B L v) => bentry_any b s q (n / 2) B L v w (by omega) (by omega) (by omega) hK)
  have HX := hide (Is.new w 112 [.string ⟨#[]⟩, .string ⟨#[]⟩])
  have hT0 := (Turns.refl b w).alloc (.cells #[.string ⟨#[]⟩, .string ⟨#[]⟩] 112)
  have hbl := hK.blk.lt
  have HK := hide hK
  have HK0 := hide hK0
  have hr : Int.tmod (n : Int) 2 = 0 := by rw [rem2, h2]; rfl
  have hd := quo2 n
  clear hK hK0 hn
  generalize Lk.entR L (n / 2) q = R at *
  go_enter Tryz.func154, Tryz.ntmps154
  go_wp2_with fail
  refine (unhide HC).mono ?_
  rintro e w1 ⟨rfl, hI1, hT1⟩
  have HX1 := hide ((unhide HX).grown hT1 (by simp; omega))
  have HK1 := hide ((unhide HK0).turns hT1 hI1)
  clear hI1
  go_wp2_with fail
  refine (unhide HC2 _ (unhide HK1)).mono ?_
  rintro e w2 ⟨rfl, hK2, hT2⟩
  have hX2 := (unhide HX1).grown hT2 (by simp; omega)
  have c0 := hX2.cell 0
  have c1 := hX2.cell 1
  have f0 := hX2.free 0
  have f1 := hX2.free 1
  have hXl := hX2.lt
  simp only [List.getElem?_cons_zero, List.getElem?_cons_succ] at c0 c1
  have HK2 := hide hK2
  clear hK2 hX2
  have hTT := (((hT0.trans hT1).trans hT2).setFar (a := ⟨w.heap.size, 0, none⟩) (Nat.le_refl _) (.string (bs (hdOf R).n))).setFar (a := ⟨w.heap.size, 1, none⟩) (Nat.le_refl _) (.string (bs (hdOf R).v))
  go_wp2_with fail
  exact bodyPost_ret (v := .tuple #[hdA (hdOf R), .bool R.good]) (by simp [results, Tryz.results154, go_sem, c0, c1]) rfl ⟨rfl, (unhide HK).turns hTT ((((unhide HK2).blk.other _ _ (by simp; omega)).other _ _ (by simp; omega))), hTT⟩

set_option maxHeartbeats 1000000 in
set_option maxRecDepth 100000 in
theorem bpart_odd (b : Nat) (s : ByteArray) (p n q B : Nat) (L : List Lk.Hd) (v : Value) (w : World) (hs : s.size ≤ 2 ^ 48) (hp : p ≤ s.size) (hK : Blk w b s p B L v) (hn : Lk.numR s.data.toList p = .ok n q) (h2 : n % 2 = 1) :
    Calls Tryz.prog 154 #[.pointer (some ⟨b, 0, none⟩)] w fun e w' =>
      (∃ hx, e = .returned (.tuple #[hdA hx, .bool (Lk.freshR L (n / 2) s.data.toList q).good]) ∧ ∀ h q', Lk.freshR L (n / 2) s.data.toList q = .ok h q' → hx = h) ∧
      (∃ v', Blk w' b s (Lk.freshR L (n / 2) s.data.toList q).at B (match Lk.freshR L (n / 2) s.data.toList q with | .ok h _ => Lk.put B L h | .bad _ => L) v' ∧ NewOr w.heap.size v v') ∧ Turns b w w' := by
  have hK0 := hK.alloc (.cells #[.string ⟨#[]⟩, .string ⟨#[]⟩] 112)
  have hq := Lk.numR_ge (by rw [← size_list]; exact hp) hn
  rw [← size_list] at hq
  have hnl := Lk.numR_le hn
  have HC := hide (number_ok b _ s p n q _ _ (by unfold maxLen; omega) hp hK0.blk hn)
  have HC2 := hide (fun w (hK : Blk w b s q B L v) => bfresh_any b s q (n / 2) B L v w hs (by omega) (by omega) (by omega) hK)
  have hfl := hide (fun h q' => Lk.freshR_len (L := L) (k := n / 2) (s := s.data.toList) (p := q) (h := h) (q := q') hK.le hK.hB (by rw [← size_list]; omega))
  have HX := hide (Is.new w 112 [.string ⟨#[]⟩, .string ⟨#[]⟩])
  have hT0 := (Turns.refl b w).alloc (.cells #[.string ⟨#[]⟩, .string ⟨#[]⟩] 112)
  have hbl := hK.blk.lt
  have HK := hide hK
  have HK0 := hide hK0
  have hr : Int.tmod (n : Int) 2 = 1 := by rw [rem2, h2]; rfl
  have hd := quo2 n
  clear hK hK0 hn
  generalize Lk.freshR L (n / 2) s.data.toList q = R at *
  go_enter Tryz.func154, Tryz.ntmps154
  go_wp2_with fail
  refine (unhide HC).mono ?_
  rintro e w1 ⟨rfl, hI1, hT1⟩
  have HX1 := hide ((unhide HX).grown hT1 (by simp; omega))
  have HK1 := hide ((unhide HK0).turns hT1 hI1)
  clear hI1
  go_wp2_with fail
  refine (unhide HC2 _ (unhide HK1)).mono ?_
  rintro e w2 ⟨⟨hx, rfl, hhx⟩, hK2, hT2⟩
  have hX2 := (unhide HX1).grown hT2 (by simp; omega)
  have HX2 := hide hX2
  have HHX := hide hhx
  have hT3 := (hT0.trans hT1).trans hT2
  have hXl := hX2.lt
  clear hX2 hhx
  cases R with
  | bad q' =>
    simp only [Lk.PR.good, Lk.PR.at] at hK2 ⊢
    have HK2 := hide hK2
    have c0 := (unhide HX2).cell 0
    have c1 := (unhide HX2).cell 1
    have f0 := (unhide HX2).free 0
    have f1 := (unhide HX2).free 1
    simp only [List.getElem?_cons_zero, List.getElem?_cons_succ] at c0 c1
    clear hK2
    have hTT := ((hT3.setFar (a := ⟨w.heap.size, 0, none⟩) (Nat.le_refl _) (.string (bs hx.n))).setFar (a := ⟨w.heap.size, 1, none⟩) (Nat.le_refl _) (.string (bs hx.v))).alloc (.cells #[.string (bs hx.n), .string (bs hx.v)] 112)
    go_wp2_with fail
    refine bodyPost_ret (v := .tuple #[hdA hx, .bool false]) (by simp [results, Tryz.results154, go_sem, c0, c1, hXl]) rfl ⟨⟨hx, rfl⟩, ⟨v, (unhide HK).turns hTT ((((unhide HK2).blk.other _ _ (by simp; omega)).other _ _ (by simp; omega)).alloc _), .inl rfl⟩, hTT⟩
  | ok h q' =>
    obtain rfl := unhide HHX h q' rfl
    simp only [Lk.PR.good, Lk.PR.at] at hK2 ⊢
    have hfl2 := unhide hfl hx q' rfl
    have HK2 := hide (hK2.alloc (.cells #[.string (bs hx.n), .string (bs hx.v)] 112))
    have hY := Is.new w2 112 [.string (bs hx.n), .string (bs hx.v)]
    have HX3 := hide ((unhide HX2).alloc (.cells #[.string (bs hx.n), .string (bs hx.v)] 112))
    have hT4 := hT3.alloc (.cells #[.string (bs hx.n), .string (bs hx.v)] 112)
    have HY := hide hY
    have hs2 : w.heap.size ≤ w2.heap.size := hT3.size
    clear hK2 hY HX2
    go_wp2_with fail
    go_cut [] (fun wc => ∃ v', Blk wc b s q' B (Lk.put B L hx) v' ∧ NewOr (w2.heap.size + 1) v v' ∧ Is wc w.heap.size 112 [.string ⟨#[]⟩, .string ⟨#[]⟩] ∧ Is wc w2.heap.size 112 [.string (bs hx.n), .string (bs hx.v)] ∧ Turns b w wc)
    case first =>
      go_region_with (go_at_call 171; refine (put_blk b s q' B L v hx _ (Blk.drew (unhide HK2)) (by omega) (by omega)).mono ?_; rintro e wx ⟨rfl, ⟨vx, hKx, hNx⟩, hTx⟩)
      all_goals
        go_wp2_with fail
        go_meet
        have hTx' : Turns b (w2.alloc (.cells #[.string (bs hx.n), .string (bs hx.v)] 112)) wx := ⟨hTx.os, hTx.tape, hTx.output, hTx.size, hTx.block⟩
        have hb2 := (unhide HK2).blk
        refine ⟨vx, hKx, ?_, (unhide HX3).grown hTx' (by simp; omega), (unhide HY).grown hTx' ?_, hT4.trans hTx'⟩
        · rcases hNx with h | h
          · exact .inl h
          · exact .inr (fun k hk => by have := h k hk; simpa using this)
        · intro e
          exact (unhide HY).ne hb2 (Nat.ne_of_beq_eq_false rfl) (by simpa using e)
    case rest =>
      obtain ⟨v', hK5, hN5, hX5, hY5, hT5⟩ := hcut
      have c0 := hX5.cell 0
      have c1 := hX5.cell 1
      have f0 := hX5.free 0
      have f1 := hX5.free 1
      have y0 := hY5.cell 0
      have y1 := hY5.cell 1
      have hXl5 := hX5.lt
      simp only [List.getElem?_cons_zero, List.getElem?_cons_succ] at c0 c1 y0 y1
      have HK5 := hide hK5
      have hTT := (hT5.setFar (a := ⟨w.heap.size, 0, none⟩) (Nat.le_refl _) (.string (bs hx.n))).setFar (a := ⟨w.heap.size, 1, none⟩) (Nat.le_refl _) (.string (bs hx.v))
      clear hK5 hX5 hY5
      go_wp2_with fail
      refine bodyPost_ret (v := .tuple #[hdA hx, .bool true]) (by simp [results, Tryz.results154, go_sem, c0, c1]) rfl ⟨rfl, ⟨v', Blk.far (unhide HK5) ?_ (by omega) (by have := (unhide HK).fx.1; omega) _ _, ?_⟩, hTT⟩
      · intro k hk
        rcases hN5 with rfl | h
        · have := ((unhide HK).own.lt k hk).2; omega
        · have := h k hk; omega
      · rcases hN5 with h | h
        · exact .inl h
        · exact .inr (fun k hk => by have := h k hk; omega)
end Go.Proofs.YtbkpdapagfjmmaaGreatDoor
