import Derived.Test.YtbkpdapagfjmmaaGreatDoorMSpec27JD
import Derived.Test.YtbkpdapagfjmmaaGreatDoorMJC
import Derived.BigQuiet
import Derived.BigRegion
/-
  Two ends that belong together, where nothing is reset and no end says bye: a round.
-/
namespace Go.Proofs.YtbkpdapagfjmmaaGreatDoor

namespace Lk
theorem map_sum_le {α : Type} (f g : α → Nat) (c : Nat) (l : List α) (h : ∀ x ∈ l, f x ≤ c * g x) : (l.map f).sum ≤ c * (l.map g).sum := by
  induction l with
  | nil => simp
  | cons x l ih =>
    have h1 := h x (by simp)
    have h2 := ih (fun y hy => h y (by simp [hy]))
    simp only [List.map_cons, List.sum_cons]
    rw [Nat.mul_add]
    omega
theorem ones_sum {α : Type} (l : List α) : (l.map fun _ => 1).sum = l.length := by
  induction l with
  | nil => rfl
  | cons x l ih =>
    simp only [List.map_cons, List.sum_cons, List.length_cons, ih]
    omega
theorem mass_small {e : En} (hw : Wf e) : e.mass ≤ 73 * e.row.length + 7 * pend e + e.oth.length := by
  unfold En.mass pend
  have h1 : rowLen e.row ≤ 73 * e.row.length := by
    obtain ⟨fs, h1, h2⟩ := hw.row
    have h3 := map_sum_le List.length (fun _ => 1) 73 e.row (fun x hx => by
      rw [h1] at hx
      obtain ⟨f, hf, rfl⟩ := List.mem_map.1 hx
      have := good_pack_len (h2 f hf).1
      omega)
    rw [ones_sum] at h3
    exact h3
  have h2 := map_sum_le oweO owing 7 e.own (fun o _ => by
    unfold oweO owing
    split <;> omega)
  have h3 := map_sum_le potO (fun _ => 1) 1 e.oth (fun o _ => by
    unfold potO
    split <;> omega)
  have h4 := ones_sum e.oth
  omega
end Lk

section
variable {e : Nat → Lk.En} {pipe : Nat → Lk.Bs} {ml ml' : Nat → List Ms} {F : Nat → List Lk.Fr} {n k j : Nat}

theorem JXM.mat {Q R : List Lk.Fr} (h : JXM k j e pipe ml Q R) : JMat k j e pipe ml := by
  obtain ⟨ta, tb, h⟩ := h
  exact ⟨ta, tb, h.joins⟩
/-- What an end has to send is small: so the mass is. -/
theorem JXS.js (h : JXS e pipe ml F) (sd : ∀ q, q < 2 → (e q).side = q) (hp : ∀ q, q < 2 → pipe q = [] ∧ (e q).rest = []) (hr : ∀ q, q < 2 → (e q).row.length ≤ 400000) (hd : ∀ q, q < 2 → Lk.pend (e q) ≤ 50000000) : JS e pipe ml 524288 := by
  refine ⟨JXM.mat h, ?_, sd⟩
  obtain ⟨ta, tb, hJ⟩ := h
  have h1 := Lk.mass_small hJ.both.wa
  have h2 := Lk.mass_small hJ.both.wb
  have a1 := hp 0 (by omega)
  have a2 := hp 1 (by omega)
  have b1 := hr 0 (by omega)
  have b2 := hr 1 (by omega)
  have c1 := hd 0 (by omega)
  have c2 := hd 1 (by omega)
  rw [a1.1, a1.2, a2.1, a2.2]
  simp only [List.length_nil]
  omega
/-- Nothing is on its way and nothing has come in part. -/
theorem JXM.empty {R : List Lk.Fr} (h : JXM k j e pipe ml [] R) : pipe k = [] ∧ (e j).rest = [] := by
  obtain ⟨ta, tb, hJ⟩ := h
  obtain ⟨G, W, h1, h2, h3⟩ := hJ.wab
  have hG : G = [] := by
    cases G with
    | nil => rfl
    | cons f G => cases h3
  subst hG
  have h1 : (e j).rest ++ pipe k = [] := h1
  simp at h1
  exact ⟨h1.2, h1.1⟩

/-- All that has come of a stream is consumed. -/
theorem JXS.eat1 (h : JXS e pipe ml F) (sd : ∀ q, q < 2 → (e q).side = q) (hk : k < 2) (hj : j < 2) (hkj : k ≠ j) {i : Nat} {x : Ms} (hx : (ml (j + 2))[i]? = some x) :
    ∃ y, (e k).oth[i]? = some y ∧ x.et + y.held = x.body.length ∧ (0 < y.held → ((e k).consumeC (2 * i + 1 + j) y.held).1 = 0 ∧ ∃ S, JXS (upd e k ((e k).consumeC (2 * i + 1 + j) y.held).2) pipe (upd ml (j + 2) ((ml (j + 2)).set i { x with et := x.et + y.held })) (upd F k (F k ++ S))
      ∧ ((e k).consumeC (2 * i + 1 + j) y.held).2.oth = (e k).oth.set i (y.eat y.held) ∧ ((e k).consumeC (2 * i + 1 + j) y.held).2.own = (e k).own ∧ (∀ f ∈ S, f.k = 4)
      ∧ ((e k).consumeC (2 * i + 1 + j) y.held).2.row.length + 2 * (e k).room ≤ (e k).row.length + 2 * ((e k).consumeC (2 * i + 1 + j) y.held).2.room ∧ (e k).room < ((e k).consumeC (2 * i + 1 + j) y.held).2.room) := by
  obtain ⟨ta, tb, hJ⟩ := h.at hk hj hkj
  have hg : (gtL (ml (j + 2)))[i]? = some (x.body, x.en) := by unfold gtL; rw [List.getElem?_map, hx]; rfl
  have hlt : i < (e k).oth.length := by
    have := hJ.lb.len
    have := Lk.lt_of_get hg
    omega
  have hy : (e k).oth[i]? = some (e k).oth[i] := List.getElem?_eq_getElem hlt
  generalize (e k).oth[i] = y at hy
  have hbd : x.body = tb i := hJ.lb.told i _ hg
  have hxe : etF (ml (j + 2)) i = x.et := by unfold etF; rw [hx]; rfl
  have hea := hJ.xba.eat i y hy
  rw [hxe, ← hbd] at hea
  refine ⟨y, hy, hea, fun h0 => ?_⟩
  obtain ⟨g0, S, g1, g2, g3, g4, g5⟩ := hJ.eat1 hy h0
  have hroom : (e k).room < ((e k).consumeC (2 * i + 1 + j) y.held).2.room := by
    rcases hJ.consume (2 * i + 1 + (e j).side) y.held with ⟨z, _⟩ | ⟨_, _, _, _, _, _, _, _, _, _, _, _, _, hrm⟩
    · exact absurd g0 z
    · rw [sd j hj] at hrm
      rw [hrm]
      simp
      omega
  rw [sd j hj] at g0 g1 g2 g3 g5
  refine ⟨g0, S, JXS.of hk hj hkj ⟨ta, tb, ?_⟩, g2, g3, g4, g5, hroom⟩
  rw [(upd_at e _ hkj).1, (upd_at e _ hkj).2, (upd_at F _ hkj).1, (upd_at F _ hkj).2, upd_other _ _ (show k ≠ j + 2 by omega), upd_other _ _ (show j ≠ j + 2 by omega), upd_other _ _ (show k + 2 ≠ j + 2 by omega), upd_same, gtL_set hx (m := { x with et := x.et + y.held }) rfl rfl, etF_set hx]
  rw [hxe] at g1
  exact g1

/-- While side k eats: what it has eaten so far. -/
structure Eat (k j : Nat) (e0 e : Nat → Lk.En) (F0 F : Nat → List Lk.Fr) (ml0 ml : Nat → List Ms) (q : Nat) : Prop where
  ej : e j = e0 j
  own : (e k).own = (e0 k).own
  room : (e0 k).room ≤ (e k).room
  row : (e k).row.length + 2 * (e0 k).room ≤ (e0 k).row.length + 2 * (e k).room
  fj : F j = F0 j
  fk : ∃ S, F k = F0 k ++ S ∧ ∀ f ∈ S, f.k = 4
  held : ∀ (i : Nat) (y : Lk.Ot), i < q → (e k).oth[i]? = some y → y.held = 0
  olen : (e k).oth.length = (e0 k).oth.length
  oml : ∀ r, r ≠ j + 2 → ml r = ml0 r
  mlen : (ml (j + 2)).length = (ml0 (j + 2)).length
  mg : gtL (ml (j + 2)) = gtL (ml0 (j + 2))
theorem Eat.start (k j : Nat) (e : Nat → Lk.En) (F : Nat → List Lk.Fr) (ml : Nat → List Ms) : Eat k j e e F F ml ml 0 :=
  ⟨rfl, rfl, Nat.le_refl _, Nat.le_refl _, rfl, ⟨[], by simp, by simp⟩, fun _ _ h => by omega, rfl, fun _ _ => rfl, rfl, rfl⟩
theorem Eat.none {e0 : Nat → Lk.En} {F0 : Nat → List Lk.Fr} {ml0 : Nat → List Ms} {q : Nat} (h : Eat k j e0 e F0 F ml0 ml q) {y : Lk.Ot} (hy : (e k).oth[q]? = some y) (h0 : y.held = 0) : Eat k j e0 e F0 F ml0 ml (q + 1) := by
  refine ⟨h.ej, h.own, h.room, h.row, h.fj, h.fk, fun i z hi hz => ?_, h.olen, h.oml, h.mlen, h.mg⟩
  by_cases e0 : i = q
  · subst e0
    rw [hy] at hz
    cases hz
    exact h0
  · exact h.held i z (by omega) hz
theorem Eat.some {e0 : Nat → Lk.En} {F0 : Nat → List Lk.Fr} {ml0 : Nat → List Ms} {q : Nat} (h : Eat k j e0 e F0 F ml0 ml q) (hkj : k ≠ j) {y : Lk.Ot} {x : Ms} {S : List Lk.Fr} {e' : Lk.En} (hy : (e k).oth[q]? = some y) (hx : (ml (j + 2))[q]? = some x) (g2 : e'.oth = (e k).oth.set q (y.eat y.held)) (g3 : e'.own = (e k).own) (g4 : ∀ f ∈ S, f.k = 4) (g5 : e'.row.length + 2 * (e k).room ≤ (e k).row.length + 2 * e'.room) (g6 : (e k).room < e'.room) :
    Eat k j e0 (upd e k e') F0 (upd F k (F k ++ S)) ml0 (upd ml (j + 2) ((ml (j + 2)).set q { x with et := x.et + y.held })) (q + 1) := by
  have u1 := (upd_at e e' hkj)
  have u2 := (upd_at F (F k ++ S) hkj)
  refine ⟨by rw [u1.2]; exact h.ej, by rw [u1.1, g3]; exact h.own, by rw [u1.1]; have := h.room; omega, by rw [u1.1]; have := h.row; omega, by rw [u2.2]; exact h.fj, ?_, fun i z hi hz => ?_, by rw [u1.1, g2, List.length_set]; exact h.olen, fun r hr => by rw [upd_other _ _ hr]; exact h.oml r hr, by rw [upd_same, List.length_set]; exact h.mlen, by rw [upd_same, gtL_set hx (m := { x with et := x.et + y.held }) rfl rfl]; exact h.mg⟩
  · obtain ⟨T, hT, hT4⟩ := h.fk
    refine ⟨T ++ S, by rw [u2.1, hT, List.append_assoc], fun f hf => ?_⟩
    rcases List.mem_append.1 hf with hf | hf
    · exact hT4 f hf
    · exact g4 f hf
  · rw [u1.1, g2] at hz
    rcases Lk.set_get hz with ⟨rfl, rfl, _⟩ | ⟨hne, hz⟩
    · simp [Lk.Ot.eat]
    · exact h.held i z (by omega) hz
end
end Go.Proofs.YtbkpdapagfjmmaaGreatDoor

/-
  Two ends that belong together, where nothing is reset and no end says bye: round for round something arrives.
-/
namespace Go.Proofs.YtbkpdapagfjmmaaGreatDoor

/-- Side k is next: what waits is not much. -/
structure HB (k j : Nat) (e : Nat → Lk.En) (pipe : Nat → Lk.Bs) (ml : Nat → List Ms) (F : Nat → List Lk.Fr) (B : Nat) : Prop where
  x : JXS e pipe ml F
  sd : ∀ q, q < 2 → (e q).side = q
  rk : (e k).row.length + Lk.pings (F k) + Lk.pings (F j) ≤ B + 800
  rj : (e j).row.length + Lk.pings (F k) + Lk.pings (F j) ≤ B
def Ate (e : Lk.En) : Prop := ∀ (i : Nat) (y : Lk.Ot), e.oth[i]? = some y → y.held = 0
def Quiet (Q : List Lk.Fr) : Prop := ∀ f ∈ Q, f.k ≠ 0 ∧ f.k ≠ 1 ∧ f.k ≠ 2
/-- Side k is next, s halves of rounds on. -/
def Stage (k j : Nat) (e : Nat → Lk.En) (pipe : Nat → Lk.Bs) (F : Nat → List Lk.Fr) (s : Nat) : Prop :=
  (1 ≤ s → F j = [] ∧ Ate (e k)) ∧ (2 ≤ s → Quiet (F k) ∧ Ate (e j) ∧ pipe k = [] ∧ (e j).rest = [])
/-- Side k has drained, and all has come to side j. -/
structure Mid (k j : Nat) (e e2 : Nat → Lk.En) (pipe pipe2 : Nat → Lk.Bs) (F F2 : Nat → List Lk.Fr) (B s : Nat) : Prop where
  fk : F2 k = []
  fj : ∃ S, F2 j = F j ++ S ∧ ∀ f ∈ S, f.k = 6
  rowj : (e2 j).row.length + Lk.pings (F2 j) ≤ B
  rowk : (e2 k).row = []
  pk : Lk.pend (e2 k) ≤ Lk.pend (e k)
  pk2 : 2 ≤ s → 0 < Lk.pend (e k) → Lk.pend (e2 k) < Lk.pend (e k)
  pj : Lk.pend (e2 j) = Lk.pend (e j)
  othk : (e2 k).oth = (e k).oth
  restk : (e2 k).rest = (e k).rest
  pj2 : pipe2 j = pipe j

section
variable {e : Nat → Lk.En} {pipe : Nat → Lk.Bs} {ml ml' : Nat → List Ms} {F : Nat → List Lk.Fr} {n k j B s : Nat}

theorem HB.drained (h : HB k j e pipe ml F B) (hk : k < 2) (hj : j < 2) (hkj : k ≠ j) (hB : B + 800 < 1000000) (hs : Stage k j e pipe F s) :
    ∀ x : Lk.Bs, x = pipe k ++ (Lk.En.drain 1000000 (e k)).1 → ∀ e1 : Nat → Lk.En, e1 = upd e k (Lk.En.drain 1000000 (e k)).2 → ∀ pipe1 : Nat → Lk.Bs, pipe1 = upd pipe k x →
      (∀ i, i < 2 → hsL (ml' i) = hsL (ml i) ∧ bdF (ml' i) = bdF (ml i) ∧ etF (ml' (i + 2)) = etF (ml (i + 2))) → gtL (ml' (j + 2)) = gtL (ml (j + 2)) → Lk.hearL k (hsL (ml k)) (bdF (ml k)) (gtL (ml (k + 2))) ((e1 j).feed x).1 = some (gtL (ml' (k + 2))) →
      ∃ F2, JXS (upd e1 j ((e1 j).feed x).2) (upd pipe1 k []) ml' F2 ∧ (∀ q, q < 2 → (upd e1 j ((e1 j).feed x).2 q).side = q) ∧ Mid k j e (upd e1 j ((e1 j).feed x).2) pipe (upd pipe1 k []) F F2 B s := by
  intro x hx e1 he1 pipe1 hp1 hml hG2 hG
  obtain ⟨Q', d1, d2, d3, d4, d5, d6, d7⟩ := h.x.drain hk hj hkj 1000000
  rw [← hx, ← he1, ← hp1] at d1
  have hrk := h.rk
  have sd1 : ∀ q, q < 2 → (e1 q).side = q := fun q hq => by
    rw [he1]
    by_cases hqk : q = k
    · subst hqk
      rw [upd_same, (Lk.drain_side _ _).1]
      exact h.sd q hq
    · rw [upd_other _ _ hqk]
      exact h.sd q hq
  have ek1 : e1 k = (Lk.En.drain 1000000 (e k)).2 := by rw [he1, upd_same]
  have ej1 : e1 j = e j := by rw [he1, upd_other _ _ (Ne.symm hkj)]
  have hpk : pipe1 k = x ++ [] := by rw [hp1, upd_same, List.append_nil]
  obtain ⟨S, Q2, m1, m2, m3, m4, m5, m6⟩ := d1.move sd1 hk hj hkj hpk hml hG2 hG
  have hQ2 : Q2 = [] := m6 rfl (by rw [ek1]; exact d5 (by omega))
  subst hQ2
  have hF2k : upd (upd (upd F k Q') k []) j (upd F k Q' j ++ S) k = [] := by rw [upd_other _ _ hkj, upd_same]
  have hFj : upd F k Q' j = F j := upd_other _ _ (Ne.symm hkj)
  have hFk : upd F k Q' k = Q' := upd_same _ _ _
  have hF2j : upd (upd (upd F k Q') k []) j (upd F k Q' j ++ S) j = F j ++ S := by rw [upd_same, hFj]
  rw [hFk] at m3
  rw [ej1] at m2 m5
  have u1 := upd_at e1 ((e1 j).feed x).2 (Ne.symm hkj)
  refine ⟨_, m1, fun q hq => ?_, hF2k, ⟨S, hF2j, m4⟩, ?_, ?_, ?_, fun h2 h0 => ?_, ?_, ?_, ?_, ?_⟩
  · by_cases hqj : q = j
    · subst hqj
      rw [u1.1, (Lk.feed_side _ _).2]
      exact sd1 q hq
    · rw [upd_other _ _ hqj]
      exact sd1 q hq
  · rw [u1.1, hF2j, Lk.pings_append, pings_six m4, ej1]
    have := h.rj
    simp only [Lk.pings, List.map_nil, List.sum_nil] at m3
    simp only [Lk.pings] at d2 this ⊢
    omega
  · rw [u1.2, ek1]
    exact d5 (by omega)
  · rw [u1.2, ek1]
    exact d3
  · rw [u1.2, ek1]
    obtain ⟨a1, a2⟩ := hs.1 (by omega)
    obtain ⟨b1, b2, _, _⟩ := hs.2 h2
    exact d6 (by omega) (by rw [a1]; simp) (fun f hf hb => by have := b1 f hf; rcases hb with z | z <;> omega) b2 h0
  · rw [u1.1, ej1]
    exact m5
  · rw [u1.2, ek1]
    exact (Lk.drain_side _ _).2.1
  · rw [u1.2, ek1]
    exact (Lk.drain_side _ _).2.2
  · rw [upd_other _ _ (Ne.symm hkj), hp1, upd_other _ _ (Ne.symm hkj)]
theorem Mid.ate {e2 e3 : Nat → Lk.En} {pipe2 : Nat → Lk.Bs} {ml2 ml3 : Nat → List Ms} {F2 F3 : Nat → List Lk.Fr} (h : Mid k j e e2 pipe pipe2 F F2 B s) (hH : HB k j e pipe ml F B) (hk : k < 2) (hj : j < 2) (hkj : k ≠ j) (hs : Stage k j e pipe F s) (hx : JXS e3 pipe2 ml3 F3) (sd : ∀ q, q < 2 → (e3 q).side = q) (hE : Eat j k e2 e3 F2 F3 ml2 ml3 (ml3 (k + 2)).length) :
    HB j k e3 pipe2 ml3 F3 B ∧ Stage j k e3 pipe2 F3 (s + 1) ∧ Lk.pend (e3 k) ≤ Lk.pend (e k) ∧ (2 ≤ s → 0 < Lk.pend (e k) → Lk.pend (e3 k) < Lk.pend (e k)) ∧ Lk.pend (e3 j) = Lk.pend (e j) := by
  obtain ⟨S, hS, hS4⟩ := hE.fk
  obtain ⟨T, hT, hT6⟩ := h.fj
  have hF3k : F3 k = [] := by rw [hE.fj, h.fk]
  have e3k : e3 k = e2 k := hE.ej
  obtain ⟨ta, tb, hJ⟩ := hx.at hj hk (Ne.symm hkj)
  have hroom : (e3 j).room ≤ 400 := by
    have := hJ.both.wa.room
    have := hJ.both.wa.win2
    omega
  have hate : Ate (e3 j) := fun i y hy => by
    refine hE.held i y ?_ hy
    have h1 := hJ.lb.bye hJ.xab.bye
    rw [gtL_len] at h1
    have := Lk.lt_of_get hy
    omega
  have hp3 : Lk.pings (F3 j) = Lk.pings (F2 j) := by rw [hS, Lk.pings_append, pings_four hS4]; rfl
  refine ⟨⟨hx, sd, ?_, ?_⟩, ⟨fun _ => ⟨hF3k, hate⟩, fun h2 => ?_⟩, ?_, fun h2 h0 => ?_, ?_⟩
  · have := hE.row
    have := h.rowj
    rw [hp3, hF3k]
    have hz : Lk.pings [] = 0 := rfl
    omega
  · rw [e3k, h.rowk, hp3, hF3k]
    have hz : Lk.pings [] = 0 := rfl
    have := h.rowj
    simp only [List.length_nil]
    omega
  · obtain ⟨a1, a2⟩ := hs.1 (by omega)
    have hem := JXM.empty (R := F k) (by
      have := hH.x.at hj hk (Ne.symm hkj)
      rw [a1] at this
      exact this)
    refine ⟨fun f hf => ?_, ?_, ?_, ?_⟩
    · rw [hS, hT, a1] at hf
      rcases List.mem_append.1 hf with hf | hf
      · have := hT6 f (by simpa using hf)
        omega
      · have := hS4 f hf
        omega
    · intro i y hy
      rw [e3k, h.othk] at hy
      exact a2 i y hy
    · rw [h.pj2]
      exact hem.1
    · rw [e3k, h.restk]
      exact hem.2
  · rw [e3k]
    exact h.pk
  · rw [e3k]
    exact h.pk2 h2 h0
  · unfold Lk.pend
    rw [hE.own]
    exact h.pj

theorem HB.js (h : HB 0 1 e pipe ml F B) (hs : Stage 0 1 e pipe F s) (h2 : 2 ≤ s) (hB : B ≤ 300000) (hp : ∀ q, q < 2 → Lk.pend (e q) ≤ 50000000) : JS e pipe ml 524288 := by
  obtain ⟨a1, _⟩ := hs.1 (by omega)
  obtain ⟨_, _, b3, b4⟩ := hs.2 h2
  have hem := JXM.empty (R := F 0) (by
    have := h.x.at (k := 1) (j := 0) (by omega) (by omega) (by omega)
    rw [a1] at this
    exact this)
  refine h.x.js h.sd (fun q hq => ?_) (fun q hq => ?_) hp
  · have : q = 0 ∨ q = 1 := by omega
    rcases this with rfl | rfl
    · exact ⟨b3, hem.2⟩
    · exact ⟨hem.1, b4⟩
  · have := h.rk
    have := h.rj
    have : q = 0 ∨ q = 1 := by omega
    rcases this with rfl | rfl <;> omega
theorem told_all {k j : Nat} {Q R : List Lk.Fr} (h : JXM k j e pipe ml Q R) (hq : ∀ f ∈ Q, f.k ≠ 0 ∧ f.k ≠ 2) (hp : Lk.pend (e k) = 0) :
    (ml (k + 2)).length = (ml k).length ∧ ∀ (i : Nat) (m : Ms), (ml (k + 2))[i]? = some m → m.en = true ∧ ∃ m', (ml k)[i]? = some m' ∧ m.body = m'.body := by
  obtain ⟨ta, tb, hJ⟩ := h
  obtain ⟨h1, h2⟩ := hJ.final hq hp
  rw [gtL_len, hsL_len] at h1
  refine ⟨h1, fun i m hm => ?_⟩
  have hg : (gtL (ml (k + 2)))[i]? = some (m.body, m.en) := by unfold gtL; rw [List.getElem?_map, hm]; rfl
  have := h2 i _ hg
  have hi : i < (ml k).length := by have := Lk.lt_of_get hm; omega
  refine ⟨congrArg Prod.snd this, (ml k)[i], List.getElem?_eq_getElem hi, ?_⟩
  have hb : m.body = bdF (ml k) i := congrArg Prod.fst this
  rw [hb]
  unfold bdF
  rw [List.getElem?_eq_getElem hi]
  rfl
theorem HB.final (h : HB 0 1 e pipe ml F B) (hs : Stage 0 1 e pipe F s) (h2 : 2 ≤ s) (hp : ∀ q, q < 2 → Lk.pend (e q) = 0) (hk : k < 2) :
    (ml (k + 2)).length = (ml k).length ∧ ∀ (i : Nat) (m : Ms), (ml (k + 2))[i]? = some m → m.en = true ∧ ∃ m', (ml k)[i]? = some m' ∧ m.body = m'.body := by
  obtain ⟨a1, _⟩ := hs.1 (by omega)
  obtain ⟨b1, _, _, _⟩ := hs.2 h2
  have : k = 0 ∨ k = 1 := by omega
  rcases this with rfl | rfl
  · exact told_all (h.x.at (k := 0) (j := 1) (by omega) (by omega) (by omega)) (fun f hf => ⟨(b1 f hf).1, (b1 f hf).2.2⟩) (hp 0 (by omega))
  · exact told_all (h.x.at (k := 1) (j := 0) (by omega) (by omega) (by omega)) (fun f hf => by rw [a1] at hf; cases hf) (hp 1 (by omega))
/-- How many rounds a list of messages takes at most. -/
def rsum (l : List Ms) : Nat := (l.map fun m => m.body.length + 2).sum
theorem sum_le2 {α β : Type} (f : α → Nat) (g : β → Nat) : ∀ (l : List α) (m : List β), l.length = m.length → (∀ (i : Nat) (x : α) (y : β), l[i]? = some x → m[i]? = some y → f x ≤ g y) → (l.map f).sum ≤ (m.map g).sum
  | [], [], _, _ => Nat.le_refl _
  | [], _ :: _, h, _ => by cases h
  | _ :: _, [], h, _ => by cases h
  | x :: l, y :: m, h, hh => by
    have h1 := hh 0 x y rfl rfl
    have h2 := sum_le2 f g l m (by simpa using h) (fun i a b ha hb => hh (i + 1) a b (by simpa using ha) (by simpa using hb))
    simp only [List.map_cons, List.sum_cons]
    omega
theorem JXS.pend_le (h : JXS e pipe ml F) (hk : k < 2) : Lk.pend (e k) ≤ rsum (ml k) := by
  obtain ⟨j, hj, hkj⟩ := other_of hk
  obtain ⟨ta, tb, hJ⟩ := h.at hk hj hkj
  unfold Lk.pend rsum
  refine sum_le2 _ _ _ _ ?_ (fun i o m ho hm => ?_)
  · have := hJ.both.ab.len
    rw [hsL_len] at this
    exact this.symm
  · have h1 := hJ.left_le ho
    have : bdF (ml k) i = m.body := by unfold bdF; rw [hm]; rfl
    rw [this] at h1
    omega
theorem rsum_take (l : List Ms) {i : Nat} (hi : i < l.length) : rsum (l.take (i + 1)) = rsum (l.take i) + (l[i].body.length + 2) := by
  rw [List.take_succ_eq_append_getElem hi]
  unfold rsum
  rw [List.map_append, List.sum_append]
  rfl
theorem rsum_le (l : List Ms) (h : ∀ m ∈ l, m.body.length ≤ 300) : rsum l ≤ 302 * l.length := by
  unfold rsum
  have := Lk.map_sum_le (fun m : Ms => m.body.length + 2) (fun _ => 1) 302 l (fun m hm => by have := h m hm; omega)
  rw [Lk.ones_sum] at this
  exact this
end
end Go.Proofs.YtbkpdapagfjmmaaGreatDoor

/-
  Walks: all that has come to a side is consumed.
-/
set_option linter.unusedVariables false
namespace Go.Proofs.YtbkpdapagfjmmaaGreatDoor
open Go.RowKit

/-- Where the walk of eat stands. -/
def EatSt (w0 : World) (P g cap : Nat) (sd eb : Nat → Nat) (mv : Nat → Value) (pipe : Nat → Lk.Bs) (k j n : Nat) (e0 : Nat → Lk.En) (F0 : Nat → List Lk.Fr) (ml0 : Nat → List Ms) (q : Nat) (e : Nat → Lk.En) (d : Nat → PD) (ml : Nat → List Ms) (F : Nat → List Lk.Fr) (w : World) : Prop :=
  JP w0 P g cap sd eb e d mv ml pipe w ∧ JXS e pipe ml F ∧ (∀ r, r < 2 → (e r).side = r) ∧ Bd ml ∧ Eat k j e0 e F0 F ml0 ml q ∧ JS e pipe ml (n + ((e k).room - (e0 k).room))
theorem EatSt.below {w0 : World} {P g cap : Nat} {sd eb : Nat → Nat} {mv : Nat → Value} {pipe : Nat → Lk.Bs} {k j n : Nat} {e0 : Nat → Lk.En} {F0 : Nat → List Lk.Fr} {ml0 : Nat → List Ms} {q : Nat} {e : Nat → Lk.En} {d : Nat → PD} {ml : Nat → List Ms} {F : Nat → List Lk.Fr} {w w' : World} (h : EatSt w0 P g cap sd eb mv pipe k j n e0 F0 ml0 q e d ml F w) (hb : Below w.heap.size w w') : EatSt w0 P g cap sd eb mv pipe k j n e0 F0 ml0 q e d ml F w' :=
  ⟨h.1.below hb, h.2⟩

set_option maxHeartbeats 4000000 in
set_option maxRecDepth 100000 in
theorem eat_any (w0 : World) (P g cap : Nat) (sd eb : Nat → Nat) (e0 : Nat → Lk.En) (d0 : Nat → PD) (mv : Nat → Value) (ml0 : Nat → List Ms) (pipe : Nat → Lk.Bs) (F0 : Nat → List Lk.Fr) (n k j : Nat) (w : World) (hk : k < 2) (hj : j < 2) (hkj : k ≠ j)
    (hJ : JP w0 P g cap sd eb e0 d0 mv ml0 pipe w) (hX : JXS e0 pipe ml0 F0) (hsd : ∀ r, r < 2 → (e0 r).side = r) (hB : Bd ml0) (hS : JS e0 pipe ml0 n) :
    Calls Tryz.prog 16 #[.pointer (some ⟨P, 0, none⟩), .int .i64 (k : Int)] w fun r w' => r = .returned (.tuple #[]) ∧ ∃ e d ml F, EatSt w0 P g cap sd eb mv pipe k j n e0 F0 ml0 (ml (j + 2)).length e d ml F w' := by
  have hjk : (1 : Int) - (k : Int) = (j : Int) := by omega
  have hk1 : (k : Int) < 2 := by omega
  have hj1 : (j : Int) < 2 := by omega
  have p0 : w.cell? ⟨P, 0, none⟩ = some (.slice (some ⟨g, 0, none⟩) 2 cap) := hJ.pr.cell 0
  have pl := hJ.pr.lt
  have rj : w.cell? ⟨g, j, none⟩ = some (.pointer (some ⟨sd j, 0, none⟩)) := pair_at hJ.row hj
  have gl : g < w.heap.size := by obtain ⟨t, ht⟩ := hJ.row; exact ht.lt
  have hcap := hJ.cap2
  have hlen0 : (ml0 (j + 2)).length ≤ 134217729 := hS.len (by omega)
  have HS0 := hide (⟨hJ, hX, hsd, hB, Eat.start k j e0 F0 ml0, by simpa using hS⟩ : EatSt w0 P g cap sd eb mv pipe k j n e0 F0 ml0 0 e0 d0 ml0 F0 w)
  have hml0 : Hid ((ml0 (j + 2)).length = (ml0 (j + 2)).length) := rfl
  generalize hL : (ml0 (j + 2)).length = L at *
  have HL := hide hL
  clear hJ hX hsd hB hS hL hml0
  go_enter Tryz.func16, Tryz.ntmps16
  go_wp2_with fail
  go_loopw [5] (fun u wr => ∃ (q : Nat) (e : Nat → Lk.En) (d : Nat → PD) (ml : Nat → List Ms) (F : Nat → List Lk.Fr), u = .int .i64 (q : Int) ∧ q ≤ L ∧ Hid (EatSt w0 P g cap sd eb mv pipe k j n e0 F0 ml0 q e d ml F wr)) (fun u _ => L - (intOf u).toNat)
  case atStart => exact ⟨0, e0, d0, ml0, F0, rfl, Nat.zero_le _, unhide HS0⟩
  case round =>
    clear HS0 p0 rj pl gl
    obtain ⟨q, e, d, ml, F, rfl, hq, HS⟩ := hrel
    obtain ⟨hJ, hX, hsd, hB, hE, hS⟩ := unhide HS
    have hmlen : (ml (j + 2)).length = L := by rw [hE.mlen]; exact unhide HL
    have sj2 : wr.cell? ⟨sd j, 2, none⟩ = some (mv (j + 2)) := (hJ.side j hj).cell 2
    have sjl := (hJ.side j hj).lt
    obtain ⟨va, vc, hv⟩ := own_any (hJ.ms (j + 2) (by omega))
    by_cases hlt : q < L
    · have hlt' : (q : Int) < L := by omega
      have hql : q < (ml (j + 2)).length := by omega
      obtain ⟨gq, cq, hq2, _, hgq, hqc, q0, q1, q2, q3, q4, q5, qf⟩ := owned_mss (hJ.ms (j + 2) (by omega)) hql
      have hx : (ml (j + 2))[q]? = some (ml (j + 2))[q] := List.getElem?_eq_getElem hql
      have hx300 := hB (j + 2) (by omega) (ml (j + 2))[q] (List.getElem_mem hql)
      generalize (ml (j + 2))[q] = x at *
      obtain ⟨y, hy, hsum, hpos⟩ := hX.eat1 hsd hk hj hkj hx
      rw [hq2, hmlen] at sj2
      rw [hmlen] at hqc
      have hbs : ((bs x.body).size : Int) = x.et + y.held := by rw [bs_size]; omega
      have hbs2 : ((bs x.body).size : Int) ≤ 300 := by rw [bs_size]; omega
      by_cases h0 : y.held = 0
      · have HN : Hid (EatSt w0 P g cap sd eb mv pipe k j n e0 F0 ml0 (q + 1) e d ml F wr) := ⟨hJ, hX, hsd, hB, hE.none hy h0, hS⟩
        have hbs3 : ((bs x.body).size : Int) = x.et := by rw [hbs, h0]; simp
        generalize (x.et : Int) = ET at *
        clear hJ hX hsd hB hE hS hy hsum hpos hx h0 hbs HS qf hv hq2 hx300
        go_wp2_with fail
        go_quiet (fail)
        go_wp2_with fail
        go_roundw
        case rel => exact ⟨q + 1, e, d, ml, F, by go_num, by omega, EatSt.below (unhide HN) (below_dn (Below.refl _ _) _)⟩
        case measure => simp [intOf]; omega
      · obtain ⟨hc0, S, hX', ho, hw', h4, hrow, hroom⟩ := hpos (by omega)
        have hcon := hS.consume hk hj hkj (2 * (q : Int) + 1 + j) y.held
        have hside := (Lk.consumeC_side (e k) (2 * (q : Int) + 1 + j) y.held).1
        have HCP := fun (nn : Nat) => consume_p (eb k) (e k) (d k) (2 * (q : Int) + 1 + j) y.held (wr.drewN nn) ((hJ.below (below_dn (Below.refl _ wr) nn)).pe k hk) ⟨by omega, by omega⟩
        rw [hc0] at hcon HCP
        generalize ((e k).consumeC (2 * (q : Int) + 1 + j) y.held).2 = e' at *
        have hJS : JS (upd e k e') pipe (upd ml (j + 2) ((ml (j + 2)).set q { x with et := x.et + y.held })) (n + (e'.room - (e0 k).room)) := by
          rcases hcon with ⟨z, _⟩ | ⟨_, i, x', hx', hst, _, _, hJS⟩
          · exact absurd rfl z
          · have hi : i = q := by omega
            subst hi
            have hxx : x' = x := by rw [hx] at hx'; exact (Option.some.inj hx').symm
            subst hxx
            rw [Int.toNat_natCast] at hJS
            have := hE.room
            exact hJS.later (by omega)
        have hE' := hE.some hkj hy hx ho hw' h4 hrow hroom
        have hsd' : ∀ r, r < 2 → (upd e k e' r).side = r := fun r hr => by
          by_cases hrk : r = k
          · subst hrk
            rw [upd_same, hside]
            exact hsd r hr
          · rw [upd_other _ _ hrk]
            exact hsd r hr
        have hB' := hB.set (k := j + 2) (by omega) hx (m := { x with et := x.et + y.held }) rfl
        have HC := hide (fun (nn : Nat) (a c : Int) (ha : a = 2 * (q : Int) + 1 + j) (hc : c = y.held) => (by subst ha hc; exact HCP nn : Calls Tryz.prog 31 #[.pointer (some ⟨eb k, 0, none⟩), .int .i64 a, .int .i64 c] (wr.drewN nn) fun r w' => r = .returned (.int .i64 ((0 : Nat) : Int)) ∧ PPost (wr.drewN nn) (eb k) (d k) e' w'))
        have HAF := hide (⟨hJ, hX', hsd', hB', hE', hJS, hx, hql⟩ : _ ∧ _ ∧ _ ∧ _ ∧ _ ∧ _ ∧ _ ∧ _)
        have p0 : wr.cell? ⟨P, 0, none⟩ = some (.slice (some ⟨g, 0, none⟩) 2 cap) := hJ.pr.cell 0
        have pl := hJ.pr.lt
        have rk : wr.cell? ⟨g, k, none⟩ = some (.pointer (some ⟨sd k, 0, none⟩)) := pair_at hJ.row hk
        have gl : g < wr.heap.size := by obtain ⟨t, ht⟩ := hJ.row; exact ht.lt
        have sk0 : wr.cell? ⟨sd k, 0, none⟩ = some (.pointer (some ⟨eb k, 0, none⟩)) := (hJ.side k hk).cell 0
        have skl := (hJ.side k hk).lt
        have HSUM := hide hsum
        have hgt : (x.et : Int) < ((bs x.body).size : Int) := by rw [hbs]; omega
        have het0 : (0 : Int) ≤ x.et := by omega
        have HVV := hide (⟨hv, hq2, hmlen⟩ : _ ∧ _ ∧ _)
        have HBS := hide hbs
        generalize hET : (x.et : Int) = ET at *
        have HET := hide hET
        clear hJ hX hsd hB hE hS hy hsum hpos hx h0 hbs HS qf hv hq2 hx300 hc0 hX' ho hw' h4 hrow hroom hcon hside HCP hJS hE' hsd' hB' hmlen hql hET
        go_wp2_with fail
        go_quiet (fail)
        go_wp2_with fail
        refine (unhide HC _ _ _ (by omega) (by have := unhide HBS; omega)).mono ?_
        rintro r w1 ⟨rfl, hP⟩
        obtain ⟨d', h1, h2, h3⟩ := hP
        obtain ⟨hJ, hX', hsd', hB', hE', hJS, hx, hql⟩ := unhide HAF
        have hJ3 := (hJ.below (below_dn (Below.refl _ wr) _)).call hk h1 h2 h3
        obtain ⟨gq2, cq2, hq3, zz1, hgq3, hqc3, zz2, zz3, zz4, zz5, zz6, z5, zf⟩ := owned_mss (hJ3.ms (j + 2) (by omega)) hql
        have hxx : (ml (j + 2))[q] = x := (List.getElem?_eq_some_iff.1 hx).2
        rw [hxx] at z5
        obtain ⟨hv, hq2, hmlen⟩ := unhide HVV
        obtain ⟨rfl, rfl⟩ : gq2 = gq ∧ cq2 = cq := by
          rw [hq2] at hq3
          injection hq3 with k1 k2 k3
          injection k1 with k1
          injection k1 with k1
          exact ⟨k1.symm, k3.symm⟩
        have t2 : w1.cell? ⟨sd j, 2, none⟩ = some (mv (j + 2)) := (hJ3.side j hj).cell 2
        have tl := (hJ3.side j hj).lt
        rw [hq2, hmlen] at t2
        rw [unhide HET] at z5
        have zf5 := zf (q * 6 + 5)
        have hset := hJ3.setMs (q := j + 2) (by omega) (j := 5) (m := { x with et := x.et + y.held }) (v := .int .i64 ((x.et + y.held : Nat) : Int)) hq2 hql (by omega) (fun z hz => by rw [hx] at hz; cases hz; exact ⟨rfl, rfl, rfl⟩)
        have hsz : ((bs x.body).size : Int) = ((x.et + y.held : Nat) : Int) := by have := unhide HBS; have := unhide HET; omega
        rw [← hsz] at hset
        have HFIN : Hid (EatSt w0 P g cap sd eb mv pipe k j n e0 F0 ml0 (q + 1) (upd e k e') (upd d k d') (upd ml (j + 2) ((ml (j + 2)).set q { x with et := x.et + y.held })) (upd F k (F k ++ S)) (w1.setCell ⟨gq2, q * 6 + 5, none⟩ (.int .i64 ((bs x.body).size : Int)))) :=
          ⟨hset, hX', hsd', hB', hE', by rw [upd_same]; exact hJS⟩
        clear hJ hX' hsd' hB' hE' hJS hx hql hJ3 h1 h2 h3 hq3 hxx hv hq2 hmlen hset hsz zf zz1 zz2 zz3 zz4 zz5 zz6 HVV HAF HC HBS HSUM q0 q1 q2 q3 q4 q5 sj2 p0 rk sk0
        go_wp2_with (go_at_call 18; refine (num_any _ _).mono ?_; rintro e w4 ⟨rfl, rfl⟩)
        go_region
        go_wp2_with fail
        go_roundw
        case rel =>
          have hE2 : ET + (((bs x.body).size : Int) - ET) = ((bs x.body).size : Int) := by omega
          rw [hE2]
          exact ⟨q + 1, _, _, _, _, by go_num, by omega, EatSt.below (unhide HFIN) ⟨rfl, rfl, rfl, Nat.le_refl _, fun _ _ => rfl⟩⟩
        case measure => simp [intOf]; omega
    · have hlt' : ¬ (q : Int) < L := by omega
      have hqL : q = L := by omega
      have HFIN : Hid (EatSt w0 P g cap sd eb mv pipe k j n e0 F0 ml0 (ml (j + 2)).length e d ml F wr) := ⟨hJ, hX, hsd, hB, by rw [hmlen, ← hqL]; exact hE, hS⟩
      rw [hv, hmlen] at sj2
      clear hJ hX hsd hB hE hS hv hmlen hqL HS
      go_wp2_with fail
      go_end0
      exact ⟨rfl, e, d, ml, F, unhide HFIN⟩
end Go.Proofs.YtbkpdapagfjmmaaGreatDoor
