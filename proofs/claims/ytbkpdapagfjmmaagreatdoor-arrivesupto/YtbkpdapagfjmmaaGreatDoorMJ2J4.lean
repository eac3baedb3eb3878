import Derived.Test.YtbkpdapagfjmmaaGreatDoorMS2J1
import Derived.Test.YtbkpdapagfjmmaaGreatDoorMSpec16Spec19
import Derived.Test.YtbkpdapagfjmmaaGreatDoorMSpec20Spec21
/-
  Two ends that belong together: the mathematics, side by number.
-/
namespace Go.Proofs.YtbkpdapagfjmmaaGreatDoor

def hsL (l : List Ms) : List (List Lk.Hd) := l.map Ms.hs
def bdF (l : List Ms) : Nat → Lk.Bs := fun i => ((l[i]?).map Ms.body).getD []
def gtL (l : List Ms) : List (Lk.Bs × Bool) := l.map fun m => (m.body, m.en)
def etF (l : List Ms) : Nat → Nat := fun i => ((l[i]?).map Ms.et).getD 0
theorem hsL_len (l : List Ms) : (hsL l).length = l.length := by simp [hsL]
theorem gtL_len (l : List Ms) : (gtL l).length = l.length := by simp [gtL]

def JMat (k j : Nat) (e : Nat → Lk.En) (pipe : Nat → Lk.Bs) (ml : Nat → List Ms) : Prop :=
  ∃ ta tb, Lk.Joins (e k) (e j) (pipe k) (pipe j) (hsL (ml k)) (hsL (ml j)) (bdF (ml k)) ta (bdF (ml j)) tb (gtL (ml (k + 2))) (gtL (ml (j + 2))) (etF (ml (k + 2))) (etF (ml (j + 2)))
theorem JMat.swap {k j : Nat} {e : Nat → Lk.En} {pipe : Nat → Lk.Bs} {ml : Nat → List Ms} (h : JMat k j e pipe ml) : JMat j k e pipe ml := by
  obtain ⟨ta, tb, h⟩ := h
  exact ⟨tb, ta, h.swap⟩
theorem JMat.to {k j i l : Nat} {e : Nat → Lk.En} {pipe : Nat → Lk.Bs} {ml : Nat → List Ms} (h : JMat k j e pipe ml) (hk : k < 2) (hj : j < 2) (hkj : k ≠ j) (hi : i < 2) (hl : l < 2) (hil : i ≠ l) : JMat i l e pipe ml := by
  by_cases hik : i = k
  · subst hik
    have : l = j := by omega
    subst this
    exact h
  · have h1 : i = j := by omega
    have h2 : l = k := by omega
    subst h1 h2
    exact h.swap
/-- All that is known of two ends that belong together, n steps on. -/
structure JS (e : Nat → Lk.En) (pipe : Nat → Lk.Bs) (ml : Nat → List Ms) (n : Nat) : Prop where
  jm : JMat 0 1 e pipe ml
  mass : (e 0).mass + (e 0).rest.length + (pipe 0).length + ((e 1).mass + (e 1).rest.length + (pipe 1).length) ≤ 2300 * n + (e 0).oth.length + (e 1).oth.length
  sd : ∀ k, k < 2 → (e k).side = k

section
variable {e : Nat → Lk.En} {pipe : Nat → Lk.Bs} {ml ml' : Nat → List Ms} {n k j : Nat}

theorem JS.at (h : JS e pipe ml n) (hk : k < 2) (hj : j < 2) (hkj : k ≠ j) : JMat k j e pipe ml := h.jm.to (by omega) (by omega) (by omega) hk hj hkj
theorem JS.massAt (h : JS e pipe ml n) (hk : k < 2) (hj : j < 2) (hkj : k ≠ j) : (e k).mass + (e k).rest.length + (pipe k).length + ((e j).mass + (e j).rest.length + (pipe j).length) ≤ 2300 * n + (e k).oth.length + (e j).oth.length := by
  have := h.mass
  have : (k = 0 ∧ j = 1) ∨ (k = 1 ∧ j = 0) := by omega
  rcases this with ⟨rfl, rfl⟩ | ⟨rfl, rfl⟩ <;> omega
/-- It is enough to know it from one side. -/
theorem JS.of (hk : k < 2) (hj : j < 2) (hkj : k ≠ j) (h1 : JMat k j e pipe ml) (h2 : (e k).mass + (e k).rest.length + (pipe k).length + ((e j).mass + (e j).rest.length + (pipe j).length) ≤ 2300 * n + (e k).oth.length + (e j).oth.length) (h3 : (e k).side = k) (h4 : (e j).side = j) : JS e pipe ml n := by
  refine ⟨h1.to hk hj hkj (by omega) (by omega) (by omega), ?_, fun i hi => ?_⟩
  · have : (k = 0 ∧ j = 1) ∨ (k = 1 ∧ j = 0) := by omega
    rcases this with ⟨rfl, rfl⟩ | ⟨rfl, rfl⟩ <;> omega
  · have : i = k ∨ i = j := by omega
    rcases this with rfl | rfl <;> assumption
theorem JS.wf (h : JS e pipe ml n) (hk : k < 2) : Lk.Wf (e k) ∧ (e k).down = 0 ∧ (ml k).length = (e k).own.length ∧ (ml (k + 2)).length ≤ (ml k).length := by
  obtain ⟨ta, tb, hJ⟩ := h.at hk (j := 1 - k) (by omega) (by omega)
  have := hJ.up
  rw [hsL_len, gtL_len, hsL_len] at this
  exact ⟨this.2.2.1, this.1, this.2.2.2.2.1, this.2.2.2.2.2.2.1⟩
theorem JS.len (h : JS e pipe ml n) {q : Nat} (hq : q < 4) : (ml q).length ≤ 134217729 := by
  have key : ∀ k, k < 2 → (ml k).length ≤ 134217729 ∧ (ml (k + 2)).length ≤ 134217729 := fun k hk => by
    obtain ⟨h1, _, h3, h4⟩ := h.wf hk
    have := h1.ownLen
    omega
  have : q = 0 ∨ q = 1 ∨ q = 0 + 2 ∨ q = 1 + 2 := by omega
  rcases this with rfl | rfl | rfl | rfl
  · exact (key 0 (by omega)).1
  · exact (key 1 (by omega)).1
  · exact (key 0 (by omega)).2
  · exact (key 1 (by omega)).2
theorem JS.small (h : JS e pipe ml n) (hn : n ≤ 2 ^ 21) (hk : k < 2) : (e k).mass ≤ 2 ^ 38 ∧ (pipe k).length ≤ 2 ^ 38 := by
  have h1 := h.mass
  have h2 := (h.wf (k := 0) (by omega)).1.othLen
  have h3 := (h.wf (k := 1) (by omega)).1.othLen
  have : k = 0 ∨ k = 1 := by omega
  rcases this with rfl | rfl <;> omega
theorem JS.later (h : JS e pipe ml n) {m : Nat} (hm : n ≤ m) : JS e pipe ml m := ⟨h.jm, Nat.le_trans h.mass (by omega), h.sd⟩
/-- The messages in other words. -/
theorem JS.same (h : JS e pipe ml n) (hh : ∀ k, k < 2 → hsL (ml' k) = hsL (ml k) ∧ bdF (ml' k) = bdF (ml k) ∧ gtL (ml' (k + 2)) = gtL (ml (k + 2)) ∧ etF (ml' (k + 2)) = etF (ml (k + 2))) : JS e pipe ml' n := by
  refine ⟨?_, h.mass, h.sd⟩
  obtain ⟨ta, tb, hJ⟩ := h.jm
  obtain ⟨a1, a2, a3, a4⟩ := hh 0 (by omega)
  obtain ⟨b1, b2, b3, b4⟩ := hh 1 (by omega)
  refine ⟨ta, tb, ?_⟩
  rw [a1, a2, a3, a4, b1, b2, b3, b4]
  exact hJ

/-- An end does something that leaves all else as it is. -/
theorem JS.one (h : JS e pipe ml n) (hk : k < 2) (hj : j < 2) (hkj : k ≠ j) {e' : Lk.En} (h1 : JMat k j (upd e k e') pipe ml') (h2 : e'.mass ≤ (e k).mass + 2300) (h3 : e'.side = (e k).side) (h4 : (e k).oth.length ≤ e'.oth.length) (h5 : e'.rest = (e k).rest) : JS (upd e k e') pipe ml' (n + 1) := by
  have hm := h.massAt hk hj hkj
  refine JS.of hk hj hkj h1 ?_ ?_ ?_
  · rw [upd_same, upd_other _ _ (Ne.symm hkj), h5]
    omega
  · rw [upd_same, h3]
    exact h.sd k hk
  · rw [upd_other _ _ (Ne.symm hkj)]
    exact h.sd j hj
theorem upd_at {α : Type} (f : Nat → α) {k j : Nat} (x : α) (h : k ≠ j) : upd f k x k = x ∧ upd f k x j = f j := ⟨upd_same _ _ _, upd_other _ _ (Ne.symm h)⟩
theorem JS.ping (h : JS e pipe ml n) (hk : k < 2) (t : Lk.Bs) : JS (upd e k ((e k).pingC t).2) pipe ml (n + 1) ∧ (((e k).pingC t).1 = 0 ∨ t.length ≠ 8) := by
  obtain ⟨j, hj, hkj⟩ : ∃ j, j < 2 ∧ k ≠ j := ⟨1 - k, by omega, by omega⟩
  obtain ⟨ta, tb, hJ⟩ := h.at hk hj hkj
  obtain ⟨h1, h2⟩ := hJ.pingC t
  obtain ⟨s1, s2, s3⟩ := Lk.pingC_side (e k) t
  have hm := Lk.pingC_mass (e k) t
  refine ⟨h.one hk hj hkj ⟨ta, tb, ?_⟩ (by omega) s1 (by rw [s2]; omega) s3, h2⟩
  rw [(upd_at e _ hkj).1, (upd_at e _ hkj).2]
  exact h1
theorem JS.bye (h : JS e pipe ml n) (hk : k < 2) : JS (upd e k (e k).byeC'.2) pipe ml (n + 1) := by
  obtain ⟨j, hj, hkj⟩ : ∃ j, j < 2 ∧ k ≠ j := ⟨1 - k, by omega, by omega⟩
  obtain ⟨ta, tb, hJ⟩ := h.at hk hj hkj
  obtain ⟨s1, s2, s3⟩ := Lk.byeC_side (e k)
  have hm := Lk.byeC_mass (h.wf hk).1
  refine h.one hk hj hkj ⟨ta, tb, ?_⟩ (by omega) s1 (by rw [s2]; omega) s3
  rw [(upd_at e _ hkj).1, (upd_at e _ hkj).2]
  exact hJ.byeC'
theorem bdF_push (l : List Ms) (m : Ms) : bdF (l ++ [m]) = Lk.updN (bdF l) l.length m.body := by
  funext i
  unfold bdF Lk.updN
  by_cases hi : i < l.length
  · rw [List.getElem?_append_left hi, if_neg (by omega)]
  · rw [List.getElem?_append_right (by omega)]
    by_cases he : i = l.length
    · subst he
      simp
    · rw [if_neg he]
      have h1 : l[i]? = none := by simp; omega
      have h2 : [m][i - l.length]? = none := by simp; omega
      simp only [h1, h2]
theorem upd_self_e (e : Nat → Lk.En) (k : Nat) : upd e k (e k) = e := by
  funext i
  unfold upd
  split
  · rename_i h; rw [h]
  · rfl
theorem JS.submit (h : JS e pipe ml n) (hk : k < 2) (l : List Lk.Hd) (body : Lk.Bs) (hv : Value) :
    (((e k).submitC l body).1.2.1 ≠ 0 ∧ JS (upd e k ((e k).submitC l body).2) pipe ml (n + 1)) ∨
    (((e k).submitC l body).1 = (2 * (ml k).length + 1 + k, 0, 0) ∧ JS (upd e k ((e k).submitC l body).2) pipe (upd ml k (ml k ++ [⟨hv, l, body, false, false, false, 0⟩])) (n + 1)) := by
  obtain ⟨j, hj, hkj⟩ : ∃ j, j < 2 ∧ k ≠ j := ⟨1 - k, by omega, by omega⟩
  obtain ⟨ta, tb, hJ⟩ := h.at hk hj hkj
  obtain ⟨s1, s2, s3⟩ := Lk.submitC_side (e k) l body
  have hm := Lk.submitC_mass (e k) l body
  rcases hJ.submitC l body with ⟨h1, h2⟩ | ⟨h1, h2⟩
  · refine .inl ⟨h1, ?_⟩
    rw [h2, upd_self_e]
    exact h.later (by omega)
  · rw [hsL_len, h.sd k hk] at h1
    refine .inr ⟨h1, h.one hk hj hkj ⟨Lk.updN ta (ml k).length [], tb, ?_⟩ (by omega) s1 (by rw [s2]; omega) s3⟩
    rw [(upd_at e _ hkj).1, (upd_at e _ hkj).2, upd_same, upd_other _ _ (Ne.symm hkj), upd_other _ _ (show k + 2 ≠ k by omega), upd_other _ _ (show j + 2 ≠ k by omega), bdF_push]
    rw [hsL_len] at h2
    have : hsL (ml k ++ [⟨hv, l, body, false, false, false, 0⟩]) = hsL (ml k) ++ [l] := by simp [hsL]
    rw [this]
    exact h2
theorem gtL_set {l : List Ms} {i : Nat} {m x : Ms} (hx : l[i]? = some x) (h1 : m.body = x.body) (h2 : m.en = x.en) : gtL (l.set i m) = gtL l := by
  unfold gtL
  rw [List.map_set]
  have : (l.map fun m => (m.body, m.en))[i]? = some (m.body, m.en) := by rw [List.getElem?_map, hx, h1, h2]; rfl
  obtain ⟨hlt, hxx⟩ := List.getElem?_eq_some_iff.1 this
  rw [← hxx]
  exact List.set_getElem_self hlt
theorem etF_set {l : List Ms} {i : Nat} {m x : Ms} (hx : l[i]? = some x) : etF (l.set i m) = fun j => if j = i then m.et else etF l j := by
  have hlt := (List.getElem?_eq_some_iff.1 hx).1
  funext j
  unfold etF
  by_cases h : j = i
  · subst h
    rw [if_pos rfl, List.getElem?_set_self hlt]
    rfl
  · rw [if_neg h, List.getElem?_set_ne (fun e => h e.symm)]
theorem JS.consume (h : JS e pipe ml n) (hk : k < 2) (hj : j < 2) (hkj : k ≠ j) (st c : Int) :
    (((e k).consumeC st c).1 ≠ 0 ∧ JS (upd e k ((e k).consumeC st c).2) pipe ml (n + 1)) ∨
    (((e k).consumeC st c).1 = 0 ∧ ∃ (i : Nat) (x : Ms), (ml (j + 2))[i]? = some x ∧ st = 2 * (i : Int) + 1 + j ∧ 1 ≤ c ∧ (x.et : Int) + c ≤ x.body.length ∧ JS (upd e k ((e k).consumeC st c).2) pipe (upd ml (j + 2) ((ml (j + 2)).set i { x with et := x.et + c.toNat })) (n + 1)) := by
  obtain ⟨ta, tb, hJ⟩ := h.at hk hj hkj
  obtain ⟨s1, s2, s3⟩ := Lk.consumeC_side (e k) st c
  have hm := Lk.consumeC_mass (h.wf hk).1 st c
  have htold : ∀ (i : Nat) (g : Lk.Bs × Bool), (gtL (ml (j + 2)))[i]? = some g → g.1 = tb i := by
    obtain ⟨Q, R, _, _, _, _, h5, _⟩ := hJ
    exact h5.told
  rcases hJ.consumeC st c with ⟨h1, h2⟩ | ⟨h1, i, h2, h3, h4, h5, h6⟩
  · refine .inl ⟨h1, ?_⟩
    rw [h2, upd_self_e]
    exact h.later (by omega)
  · rw [gtL_len] at h4
    have hx : (ml (j + 2))[i]? = some ((ml (j + 2))[i]'h4) := List.getElem?_eq_getElem h4
    generalize (ml (j + 2))[i]'h4 = x at hx
    have hb : x.body = tb i := htold i (x.body, x.en) (by unfold gtL; rw [List.getElem?_map, hx]; rfl)
    have hxe : etF (ml (j + 2)) i = x.et := by unfold etF; rw [hx]; rfl
    rw [hxe, ← hb] at h5
    rw [h.sd j hj] at h2
    refine .inr ⟨h1, i, x, hx, h2, h3, by omega, h.one hk hj hkj ⟨ta, tb, ?_⟩ (by omega) s1 (by rw [s2]; omega) s3⟩
    rw [(upd_at e _ hkj).1, (upd_at e _ hkj).2, upd_other _ _ (show k ≠ j + 2 by omega), upd_other _ _ (show j ≠ j + 2 by omega), upd_other _ _ (show k + 2 ≠ j + 2 by omega), upd_same, gtL_set hx (m := { x with et := x.et + c.toNat }) rfl rfl, etF_set hx]
    rw [hxe] at h6
    exact h6
theorem JS.reset (h : JS e pipe ml n) (hk : k < 2) (hj : j < 2) (hkj : k ≠ j) (st c : Int) : JS (upd e k ((e k).resetC st c).2) pipe ml (n + 1) ∧
    (((e k).resetC st c).1 = 0 → (∃ i : Nat, i < (ml k).length ∧ st = 2 * (i : Int) + 1 + k) ∨ (∃ i : Nat, i < (ml j).length ∧ st = 2 * (i : Int) + 1 + j)) := by
  obtain ⟨ta, tb, hJ⟩ := h.at hk hj hkj
  obtain ⟨s1, s2, s3⟩ := Lk.resetC_side (e k) st c
  have hm := Lk.resetC_mass (h.wf hk).1 st c
  obtain ⟨h1, h2⟩ := hJ.resetC st c
  rw [hsL_len, hsL_len, h.sd k hk, h.sd j hj] at h2
  refine ⟨h.one hk hj hkj ⟨ta, tb, ?_⟩ (by omega) s1 (by rw [s2]; omega) s3, fun h0 => ?_⟩
  · rw [(upd_at e _ hkj).1, (upd_at e _ hkj).2]
    exact h1
  · rcases h2 h0 with ⟨i, hi, hst⟩ | ⟨i, hi, hst⟩
    · exact .inl ⟨i, hi, hst⟩
    · exact .inr ⟨i, hi, hst⟩
theorem JS.drain (h : JS e pipe ml n) (hk : k < 2) (c : Nat) : JS (upd e k (Lk.En.drain c (e k)).2) (upd pipe k (pipe k ++ (Lk.En.drain c (e k)).1)) ml n := by
  obtain ⟨j, hj, hkj⟩ : ∃ j, j < 2 ∧ k ≠ j := ⟨1 - k, by omega, by omega⟩
  obtain ⟨ta, tb, hJ⟩ := h.at hk hj hkj
  obtain ⟨s1, s2, s3⟩ := Lk.drain_side c (e k)
  have hm := Lk.drain_mass c (h.wf hk).1
  have hma := h.massAt hk hj hkj
  refine JS.of hk hj hkj ⟨ta, tb, ?_⟩ ?_ ?_ ?_
  · rw [(upd_at e _ hkj).1, (upd_at e _ hkj).2, (upd_at pipe _ hkj).1, (upd_at pipe _ hkj).2]
    exact hJ.drain c
  · rw [(upd_at e _ hkj).1, (upd_at e _ hkj).2, (upd_at pipe _ hkj).1, (upd_at pipe _ hkj).2, s2, s3, List.length_append]
    omega
  · rw [(upd_at e _ hkj).1, s1]
    exact h.sd k hk
  · rw [(upd_at e _ hkj).2]
    exact h.sd j hj
/-- Bytes of side k come to side j. -/
theorem JS.move (h : JS e pipe ml n) (hk : k < 2) (hj : j < 2) (hkj : k ≠ j) {x y : Lk.Bs} (hxy : pipe k = x ++ y) : ((e j).feed x).2.down = 0 ∧ ∃ G', Lk.hearL k (hsL (ml k)) (bdF (ml k)) (gtL (ml (k + 2))) ((e j).feed x).1 = some G' ∧
    ∀ ml' : Nat → List Ms, (∀ i, i < 2 → hsL (ml' i) = hsL (ml i) ∧ bdF (ml' i) = bdF (ml i) ∧ etF (ml' (i + 2)) = etF (ml (i + 2))) → gtL (ml' (k + 2)) = G' → gtL (ml' (j + 2)) = gtL (ml (j + 2)) → JS (upd e j ((e j).feed x).2) (upd pipe k y) ml' (n + 1) := by
  obtain ⟨ta, tb, hJ⟩ := h.at hk hj hkj
  rw [hxy] at hJ
  obtain ⟨h1, ta', G', h2, h3⟩ := hJ.move
  rw [h.sd k hk] at h2
  refine ⟨h1, G', h2, fun ml' hml hG hG2 => ?_⟩
  obtain ⟨s1, s2⟩ := Lk.feed_side (e j) x
  have hm := Lk.feed_mass2 (h.wf hj).1 x
  have hma := h.massAt hk hj hkj
  rw [hxy, List.length_append] at hma
  obtain ⟨a1, a2, a3⟩ := hml k hk
  obtain ⟨b1, b2, b3⟩ := hml j hj
  refine JS.of hk hj hkj ⟨ta', tb, ?_⟩ ?_ ?_ ?_
  · rw [(upd_at e _ (Ne.symm hkj)).1, (upd_at e _ (Ne.symm hkj)).2, (upd_at pipe _ hkj).1, (upd_at pipe _ hkj).2, a1, a2, a3, b1, b2, b3, hG, hG2]
    exact h3
  · rw [(upd_at e _ (Ne.symm hkj)).1, (upd_at e _ (Ne.symm hkj)).2, (upd_at pipe _ hkj).1, (upd_at pipe _ hkj).2]
    omega
  · rw [(upd_at e _ (Ne.symm hkj)).2]
    exact h.sd k hk
  · rw [(upd_at e _ (Ne.symm hkj)).1, s2]
    exact h.sd j hj
theorem JS.start {win : Nat} (h1 : 1 ≤ win) (h2 : win ≤ 200) : JS (fun k => Lk.En.new k win) (fun _ => []) (fun _ => []) 0 := by
  refine ⟨⟨fun _ => [], fun _ => [], ?_⟩, ?_, fun k hk => rfl⟩
  · have : bdF ([] : List Ms) = fun _ => [] := by funext i; simp [bdF]
    have h3 : etF ([] : List Ms) = fun _ => 0 := by funext i; simp [etF]
    simp only [this, h3]
    exact Lk.Joins.start 0 1 win rfl h1 h2
  · rw [Lk.new_mass, Lk.new_mass]
    simp [Lk.En.new]
end
end Go.Proofs.YtbkpdapagfjmmaaGreatDoor

/-
  Walks: the number of a stream among those of a side.
-/
namespace Go.Proofs.YtbkpdapagfjmmaaGreatDoor
open Go.RowKit

/-- What index answers. -/
def ixN (st : Int) (k : Nat) : Int := if st - 1 - k < 0 ∨ (st - 1 - k) % 2 ≠ 0 then -1 else (st - 1 - k) / 2
theorem ixN_of {st : Int} {k i : Nat} (h : st = 2 * (i : Int) + 1 + k) : ixN st k = i := by
  unfold ixN
  rw [if_neg (by omega)]
  omega
theorem ixN_nat {st k : Nat} : (∃ i : Nat, st = 2 * i + 1 + k ∧ ixN st k = i) ∨ ((∀ i : Nat, st ≠ 2 * i + 1 + k) ∧ ixN st k = -1) := by
  by_cases h : ∃ i : Nat, st = 2 * i + 1 + k
  · obtain ⟨i, hi⟩ := h
    exact .inl ⟨i, hi, ixN_of (by omega)⟩
  · refine .inr ⟨fun i hi => h ⟨i, hi⟩, ?_⟩
    unfold ixN
    rw [if_pos]
    by_cases h0 : (st : Int) - 1 - k < 0
    · exact .inl h0
    · refine .inr (fun hm => h ⟨(((st : Int) - 1 - k) / 2).toNat, by omega⟩)
theorem index_any (st : Int) (k : Nat) (hk : k < 2) (w : World) (h1 : -4611686018427387904 ≤ st) (h2 : st ≤ 9223372036854775807) :
    Calls Tryz.prog 24 #[.int .i64 st, .int .i64 (k : Int)] w fun r w' => r = .returned (.int .i64 (ixN st k)) ∧ w' = w := by
  unfold ixN
  by_cases c1 : st - 1 - k < 0
  · rw [if_pos (.inl c1)]
    go_enter Tryz.func24, Tryz.ntmps24
    go_wp2
    go_ret
    exact ⟨rfl, rfl⟩
  · by_cases c2 : (st - 1 - k) % 2 = 0
    · rw [if_neg (by simp [c1, c2])]
      go_enter Tryz.func24, Tryz.ntmps24
      go_wp2
      go_ret
      exact ⟨rfl, rfl⟩
    · rw [if_pos (.inr c2)]
      have c2' : ((st - 1 - k) % 2 != 0) = true := by simpa using c2
      clear c2
      go_enter Tryz.func24, Tryz.ntmps24
      go_wp2
      go_ret
      exact ⟨rfl, rfl⟩
/-- Whatever number comes: something is answered. -/
theorem index_wild (st : Int) (k : Nat) (hk : k < 2) (w : World) (h1 : -9223372036854775808 ≤ st) (h2 : st ≤ 9223372036854775807) :
    Calls Tryz.prog 24 #[.int .i64 st, .int .i64 (k : Int)] w fun r w' => (∃ x, r = .returned (.int .i64 x) ∧ (-4611686018427387904 ≤ st → x = ixN st k)) ∧ w' = w := by
  by_cases c0 : -4611686018427387904 ≤ st
  · refine (index_any st k hk w c0 h2).mono ?_
    rintro r w' ⟨rfl, rfl⟩
    exact ⟨⟨_, rfl, fun _ => rfl⟩, rfl⟩
  · by_cases c1 : -9223372036854775808 ≤ st - 1 - k
    · go_enter Tryz.func24, Tryz.ntmps24
      go_wp2
      go_ret
      exact ⟨⟨_, rfl, fun h => absurd h (by omega)⟩, rfl⟩
    · go_enter Tryz.func24, Tryz.ntmps24
      go_wp2
      · go_ret
        exact ⟨⟨_, rfl, fun h => absurd h (by omega)⟩, rfl⟩
      · go_ret
        exact ⟨⟨_, rfl, fun h => absurd h (by omega)⟩, rfl⟩
      · go_ret
        exact ⟨⟨_, rfl, fun h => absurd h (by omega)⟩, rfl⟩
end Go.Proofs.YtbkpdapagfjmmaaGreatDoor

/-
  Memory: what a side is told, event by event.
-/
namespace Go.Proofs.YtbkpdapagfjmmaaGreatDoor
open Go.RowKit

/-- Side k has heard i of the events; j speaks. -/
structure HS (w0 : World) (P g cap : Nat) (sd eb : Nat → Nat) (e : Nat → Lk.En) (d : Nat → PD) (ml : Nat → List Ms) (pipe : Nat → Lk.Bs) (k j B : Nat) (v : Value) (evs : List EvH) (G' : List (Lk.Bs × Bool)) (i : Nat) (mv1 : Nat → Value) (ml1 : Nat → List Ms) (W : World) : Prop where
  jp : JP w0 P g cap sd eb e d mv1 ml1 pipe W
  row : W.ownsRow B 116 5 v evs.length (evsV evs)
  hds : ∀ p ∈ evs.drop i, W.ownsRow B 112 2 p.2 p.1.hs.length (hdsV p.1.hs)
  apart : evs.Pairwise fun p q => p.2.ownBlock = none ∨ p.2.ownBlock ≠ q.2.ownBlock
  sep : ∀ x, saidFoot v evs x → ¬ jf P g sd mv1 ml1 x ∧ ∀ q, q < 2 → ¬ foot (eb q) (d q) x
  lo : ∀ x, saidFoot v evs x → w0.heap.size ≤ x
  lt : ∀ x, saidFoot v evs x → x < W.heap.size
  same : ∀ q, q < 2 → hsL (ml1 q) = hsL (ml q) ∧ bdF (ml1 q) = bdF (ml q) ∧ etF (ml1 (q + 2)) = etF (ml (q + 2))
  gk : gtL (ml1 (k + 2)) = gtL (ml (k + 2))
  le : (ml1 (j + 2)).length ≤ (ml j).length
  res : Lk.hearL j (hsL (ml j)) (bdF (ml j)) (gtL (ml1 (j + 2))) ((evs.drop i).map Prod.fst) = some G'

section
variable {w0 W W' : World} {P g cap : Nat} {sd eb : Nat → Nat} {e : Nat → Lk.En} {d : Nat → PD} {ml : Nat → List Ms} {pipe : Nat → Lk.Bs} {k j B : Nat} {v : Value} {evs : List EvH} {G' : List (Lk.Bs × Bool)} {i : Nat} {mv1 : Nat → Value} {ml1 : Nat → List Ms}

theorem HS.below (h : HS w0 P g cap sd eb e d ml pipe k j B v evs G' i mv1 ml1 W) (hb : Below W.heap.size W W') : HS w0 P g cap sd eb e d ml pipe k j B v evs G' i mv1 ml1 W' :=
  ⟨h.jp.below hb, own_below h.row hb, fun p hp => own_below (h.hds p hp) hb, h.apart, h.sep, h.lo, fun x hx => Nat.lt_of_lt_of_le (h.lt x hx) hb.size, h.same, h.gk, h.le, h.res⟩
theorem dropCons {α : Type} {l : List α} {i : Nat} (h : i < l.length) : l.drop i = l[i] :: l.drop (i + 1) := List.drop_eq_getElem_cons h
theorem hds_next {l : List EvH} {i : Nat} {p : EvH} (hp : p ∈ l.drop (i + 1)) : p ∈ l.drop i := by
  by_cases h : i < l.length
  · rw [dropCons h]
    exact List.mem_cons_of_mem _ hp
  · rw [List.drop_eq_nil_of_le (by omega)] at hp
    cases hp
/-- What the next event makes of what was told. -/
theorem HS.next (h : HS w0 P g cap sd eb e d ml pipe k j B v evs G' i mv1 ml1 W) (hi : i < evs.length) : ∃ G1, Lk.hear1 j (hsL (ml j)) (bdF (ml j)) (gtL (ml1 (j + 2))) evs[i].1 = some G1 ∧ Lk.hearL j (hsL (ml j)) (bdF (ml j)) G1 ((evs.drop (i + 1)).map Prod.fst) = some G' := by
  have := h.res
  rw [dropCons hi, List.map_cons, Lk.hearL] at this
  cases hx : Lk.hear1 j (hsL (ml j)) (bdF (ml j)) (gtL (ml1 (j + 2))) evs[i].1 with
  | none => rw [hx] at this; cases this
  | some G1 => rw [hx] at this; exact ⟨G1, rfl, this⟩
/-- An event that says nothing of what is told. -/
theorem HS.skip (h : HS w0 P g cap sd eb e d ml pipe k j B v evs G' i mv1 ml1 W) (hi : i < evs.length) (hk : evs[i].1.k ≠ 1 ∧ evs[i].1.k ≠ 2 ∧ evs[i].1.k ≠ 3) : HS w0 P g cap sd eb e d ml pipe k j B v evs G' (i + 1) mv1 ml1 W := by
  obtain ⟨G1, h1, h2⟩ := h.next hi
  rw [Lk.hear1_other hk] at h1
  cases h1
  exact ⟨h.jp, h.row, fun p hp => h.hds p (hds_next hp), h.apart, h.sep, h.lo, h.lt, h.same, h.gk, h.le, h2⟩
theorem own_row_other {w : World} {B g cap n size j : Nat} {E : TypeId} {xs : List Value} (h : w.ownsRow B E size (.slice (some ⟨g, 0, none⟩) n cap) n xs) {T : TypeId} {B' n' size' : Nat} {v' : Value} {xs' : List Value} (h' : w.ownsRow B' T size' v' n' xs') (hT : T ≠ E) (x : Value) : (w.setCell ⟨g, j, none⟩ x).ownsRow B' T size' v' n' xs' := by
  refine own_only h' ((Only.refl (· = g) w).set g j x (fun _ => rfl)) (fun y hy e => ?_)
  rcases own_own_ne h' h hT with h'' | h''
  · rw [h''] at hy; cases hy
  · subst e
    exact h'' hy
/-- A message is written to. -/
theorem HS.write (h : HS w0 P g cap sd eb e d ml pipe k j B v evs G' i mv1 ml1 W) {q : Nat} (hq : q < 4) {gq cq x f : Nat} {m : Ms} {y : Value} (hv : mv1 q = .slice (some ⟨gq, 0, none⟩) (ml1 q).length cq) (hx : x < (ml1 q).length) (hf : f < 6) (hm : ∀ z, (ml1 q)[x]? = some z → (msV z).set f y = msV m ∧ m.hv = z.hv ∧ m.hs = z.hs) :
    JP w0 P g cap sd eb e d mv1 (upd ml1 q ((ml1 q).set x m)) pipe (W.setCell ⟨gq, x * 6 + f, none⟩ y) ∧ (W.setCell ⟨gq, x * 6 + f, none⟩ y).ownsRow B 116 5 v evs.length (evsV evs) ∧ (∀ p ∈ evs.drop i, (W.setCell ⟨gq, x * 6 + f, none⟩ y).ownsRow B 112 2 p.2 p.1.hs.length (hdsV p.1.hs)) ∧ ∀ z, saidFoot v evs z → ¬ jf P g sd mv1 (upd ml1 q ((ml1 q).set x m)) z ∧ ∀ q, q < 2 → ¬ foot (eb q) (d q) z := by
  have hown := h.jp.ms q hq
  rw [hv] at hown
  refine ⟨h.jp.setMs hq hv hx hf hm, own_row_other hown h.row (Nat.ne_of_beq_eq_false rfl) y, fun p hp => own_row_other hown (h.hds p hp) (Nat.ne_of_beq_eq_false rfl) y, fun z hz => ⟨fun hj => (h.sep z hz).1 ?_, (h.sep z hz).2⟩⟩
  have hxx : (ml1 q)[x]? = some (ml1 q)[x] := List.getElem?_eq_getElem hx
  have hmx := hm _ hxx
  rcases hj with hy | hy | hy | hy | ⟨r, hr, m', hm', hy⟩
  · exact .inl hy
  · exact .inr (.inl hy)
  · exact .inr (.inr (.inl hy))
  · exact .inr (.inr (.inr (.inl hy)))
  · refine .inr (.inr (.inr (.inr ?_)))
    by_cases hrq : r = q
    · subst hrq
      rw [upd_same] at hm'
      rcases List.mem_or_eq_of_mem_set hm' with hm' | rfl
      · exact ⟨r, hr, m', hm', hy⟩
      · exact ⟨r, hr, _, List.getElem_mem hx, by rw [← hmx.2.1]; exact hy⟩
    · rw [upd_other _ _ hrq] at hm'
      exact ⟨r, hr, m', hm', hy⟩
theorem hsL_set {l : List Ms} {i : Nat} {m x : Ms} (hx : l[i]? = some x) (h1 : m.hs = x.hs) : hsL (l.set i m) = hsL l := by
  unfold hsL
  rw [List.map_set]
  have : (l.map Ms.hs)[i]? = some m.hs := by rw [List.getElem?_map, hx, h1]; rfl
  obtain ⟨hlt, hxx⟩ := List.getElem?_eq_some_iff.1 this
  rw [← hxx]
  exact List.set_getElem_self hlt
theorem bdF_set {l : List Ms} {i : Nat} {m x : Ms} (hx : l[i]? = some x) (h1 : m.body = x.body) : bdF (l.set i m) = bdF l := by
  have hlt := (List.getElem?_eq_some_iff.1 hx).1
  funext j
  unfold bdF
  by_cases h : j = i
  · subst h
    rw [List.getElem?_set_self hlt, hx]
    simp [h1]
  · rw [List.getElem?_set_ne (fun e => h e.symm)]
theorem etF_same {l : List Ms} {i : Nat} {m x : Ms} (hx : l[i]? = some x) (h1 : m.et = x.et) : etF (l.set i m) = etF l := by
  rw [etF_set hx]
  funext j
  by_cases h : j = i
  · rw [if_pos h, h, h1]
    unfold etF
    rw [hx]
    rfl
  · rw [if_neg h]
/-- It is noted that a message is gone. -/
theorem HS.gone (h : HS w0 P g cap sd eb e d ml pipe k j B v evs G' i mv1 ml1 W) {q : Nat} (hq : q < 2) {gq cq x : Nat} (hv : mv1 q = .slice (some ⟨gq, 0, none⟩) (ml1 q).length cq) (hx : x < (ml1 q).length) :
    HS w0 P g cap sd eb e d ml pipe k j B v evs G' i mv1 (upd ml1 q ((ml1 q).set x { (ml1 q)[x] with gn := true })) (W.setCell ⟨gq, x * 6 + 4, none⟩ (.bool true)) := by
  have hxx : (ml1 q)[x]? = some (ml1 q)[x] := List.getElem?_eq_getElem hx
  obtain ⟨h1, h2, h3, h4⟩ := h.write (q := q) (by omega) (f := 4) (m := { (ml1 q)[x] with gn := true }) (y := .bool true) hv hx (by omega) (fun z hz => by rw [hxx] at hz; cases hz; exact ⟨rfl, rfl, rfl⟩)
  refine ⟨h1, h2, h3, h.apart, h4, h.lo, fun x hx => by simpa using h.lt x hx, fun r hr => ?_, ?_, ?_, ?_⟩
  · obtain ⟨s1, s2, s3⟩ := h.same r hr
    rw [upd_other _ _ (show r + 2 ≠ q by omega)]
    by_cases hrq : r = q
    · subst hrq
      rw [upd_same, hsL_set (m := { (ml1 r)[x] with gn := true }) hxx rfl, bdF_set (m := { (ml1 r)[x] with gn := true }) hxx rfl]
      exact ⟨s1, s2, s3⟩
    · rw [upd_other _ _ hrq]
      exact ⟨s1, s2, s3⟩
  · rw [upd_other _ _ (show k + 2 ≠ q by omega)]
    exact h.gk
  · rw [upd_other _ _ (show j + 2 ≠ q by omega)]
    exact h.le
  · rw [upd_other _ _ (show j + 2 ≠ q by omega)]
    exact h.res
/-- More of a message is told, or its end. -/
theorem HS.got (h : HS w0 P g cap sd eb e d ml pipe k j B v evs G' i mv1 ml1 W) (hi : i < evs.length) (hj : j < 2) (hkj : k ≠ j) {gq cq x f : Nat} {m : Ms} {y : Value} (hv : mv1 (j + 2) = .slice (some ⟨gq, 0, none⟩) (ml1 (j + 2)).length cq) (hx : x < (ml1 (j + 2)).length) (hf : f < 6) (hm : (msV (ml1 (j + 2))[x]).set f y = msV m) (hhv : m.hv = (ml1 (j + 2))[x].hv) (hhs : m.hs = (ml1 (j + 2))[x].hs) (het : m.et = (ml1 (j + 2))[x].et)
    (hG : Lk.hear1 j (hsL (ml j)) (bdF (ml j)) (gtL (ml1 (j + 2))) evs[i].1 = some ((gtL (ml1 (j + 2))).set x (m.body, m.en))) :
    HS w0 P g cap sd eb e d ml pipe k j B v evs G' (i + 1) mv1 (upd ml1 (j + 2) ((ml1 (j + 2)).set x m)) (W.setCell ⟨gq, x * 6 + f, none⟩ y) := by
  have hxx : (ml1 (j + 2))[x]? = some (ml1 (j + 2))[x] := List.getElem?_eq_getElem hx
  obtain ⟨h1, h2, h3, h4⟩ := h.write (q := j + 2) (by omega) (f := f) (m := m) (y := y) hv hx hf (fun z hz => by rw [hxx] at hz; cases hz; exact ⟨hm, hhv, hhs⟩)
  obtain ⟨G1, n1, n2⟩ := h.next hi
  rw [hG] at n1
  cases n1
  refine ⟨h1, h2, fun p hp => h3 p (hds_next hp), h.apart, h4, h.lo, fun x hx => by simpa using h.lt x hx, fun r hr => ?_, ?_, ?_, ?_⟩
  · obtain ⟨s1, s2, s3⟩ := h.same r hr
    rw [upd_other _ _ (show r ≠ j + 2 by omega)]
    by_cases hrq : r = j
    · subst hrq
      rw [upd_same, etF_same hxx het]
      exact ⟨s1, s2, s3⟩
    · rw [upd_other _ _ (show r + 2 ≠ j + 2 by omega)]
      exact ⟨s1, s2, s3⟩
  · rw [upd_other _ _ (show k + 2 ≠ j + 2 by omega)]
    exact h.gk
  · rw [upd_same, List.length_set]
    exact h.le
  · rw [upd_same]
    have : gtL ((ml1 (j + 2)).set x m) = (gtL (ml1 (j + 2))).set x (m.body, m.en) := by unfold gtL; rw [List.map_set]
    rw [this]
    exact n2
/-- The headers of an event are spoilt. -/
theorem HS.spoilt (h : HS w0 P g cap sd eb e d ml pipe k j B v evs G' i mv1 ml1 W) (hi : i < evs.length) (hg : W.grownBy W' evs[i].2.ownBlock) : JP w0 P g cap sd eb e d mv1 ml1 pipe W' ∧ W'.ownsRow B 116 5 v evs.length (evsV evs) ∧ (∀ p ∈ evs.drop (i + 1), W'.ownsRow B 112 2 p.2 p.1.hs.length (hdsV p.1.hs)) := by
  have hO : Only (fun x => some x = evs[i].2.ownBlock) W W' := Only.of_grown hg
  have hs : ∀ x, some x = evs[i].2.ownBlock → saidFoot v evs x := fun x hx => .inr ⟨evs[i], List.getElem_mem hi, hx.symm⟩
  have hthis := h.hds evs[i] (by rw [dropCons hi]; exact List.mem_cons_self)
  refine ⟨h.jp.only hO (fun x hx hy => (h.sep x (hs x hy)).1 hx) (fun q hq x hx hy => (h.sep x (hs x hy)).2 q hq hx) (fun x hx _ => h.lo x (hs x hx)), own_only h.row hO (fun x hx hy => ?_), fun p hp => own_only (h.hds p (hds_next hp)) hO (fun x hx hy => ?_)⟩
  · rcases own_own_ne h.row hthis (Nat.ne_of_beq_eq_false rfl) with h' | h'
    · rw [h'] at hx; cases hx
    · exact h' (hx.trans hy)
  · have hap := h.apart
    rw [← List.take_append_drop i evs, dropCons hi] at hap
    have h2 := (List.pairwise_append.1 hap).2.1
    rcases (List.pairwise_cons.1 h2).1 p hp with h' | h'
    · rw [h'] at hy; cases hy
    · exact h' (hy.symm.trans hx.symm)
/-- A message has begun. -/
theorem HS.begun (h : HS w0 P g cap sd eb e d ml pipe k j B v evs G' i mv1 ml1 W) (hi : i < evs.length) (hl : (ml1 (j + 2)).length < (ml j).length) (hj : j < 2) (hkj : k ≠ j) {W2 W3 : World} {v' : Value} (hg : W.grownBy W2 evs[i].2.ownBlock)
    (hown : W3.ownsRow w0.heap.size 44 6 v' ((ml1 (j + 2)).length + 1) (mssV (ml1 (j + 2)) ++ msV ⟨nilS, [], [], true, false, false, 0⟩)) (hO : Only (fun x => (mv1 (j + 2)).ownBlock = some x) W2 W3) (hor : ∀ x, v'.ownBlock = some x → (mv1 (j + 2)).ownBlock = some x ∨ W2.heap.size ≤ x)
    (hG : Lk.hear1 j (hsL (ml j)) (bdF (ml j)) (gtL (ml1 (j + 2))) evs[i].1 = some (gtL (ml1 (j + 2)) ++ [([], false)])) :
    HS w0 P g cap sd eb e d ml pipe k j B v evs G' (i + 1) (upd mv1 (j + 2) v') (upd ml1 (j + 2) (ml1 (j + 2) ++ [⟨nilS, [], [], true, false, false, 0⟩])) (W3.setCell ⟨sd j, 2, none⟩ v') := by
  obtain ⟨h1, h2, h3⟩ := h.spoilt hi hg
  have hp := h1.push (q := j + 2) (k := j) (c := 2) hj (.inr ⟨rfl, rfl⟩) hown hO hor (World.ownsRow_nil _ _ _ _) (fun _ _ x hx => by cases hx)
  obtain ⟨G1, n1, n2⟩ := h.next hi
  rw [hG] at n1
  cases n1
  have hmq := h1.ms (j + 2) (by omega)
  have hside3 := (h1.side j hj).only hO (fun e => own_ne hmq (h1.side j hj) (Nat.ne_of_beq_eq_false rfl) e.symm)
  have hS : Only (· = sd j) W3 (W3.setCell ⟨sd j, 2, none⟩ v') := (Only.refl (· = sd j) W3).set (sd j) 2 _ (fun _ => rfl)
  have hkeep : ∀ {T : TypeId} {n size : Nat} {y : Value} {xs : List Value}, W2.ownsRow B T size y n xs → T ≠ 44 → 37 ≠ T → (W3.setCell ⟨sd j, 2, none⟩ v').ownsRow B T size y n xs := fun {T n size y xs} ho hT hT2 => by
    have ho3 : W3.ownsRow B T size y n xs := own_only ho hO (fun x hx hy => by
      rcases own_own_ne ho hmq hT with h' | h'
      · rw [h'] at hx; cases hx
      · exact h' (hx.trans hy.symm))
    exact own_only ho3 hS (fun x hx e => by subst e; exact own_ne ho3 hside3 hT2 hx.symm)
  refine ⟨hp, hkeep h2 (Nat.ne_of_beq_eq_false rfl) (Nat.ne_of_beq_eq_false rfl), fun p hp => hkeep (h3 p hp) (Nat.ne_of_beq_eq_false rfl) (Nat.ne_of_beq_eq_false rfl), h.apart, fun x hx => ⟨fun hj' => ?_, (h.sep x hx).2⟩, h.lo, fun x hx => ?_, fun r hr => ?_, ?_, ?_, ?_⟩
  · rcases hj' with hy | hy | hy | ⟨r, hr, hy⟩ | ⟨r, hr, m', hm', hy⟩
    · exact (h.sep x hx).1 (.inl hy)
    · exact (h.sep x hx).1 (.inr (.inl hy))
    · exact (h.sep x hx).1 (.inr (.inr (.inl hy)))
    · by_cases hrq : r = j + 2
      · subst hrq
        rw [upd_same] at hy
        rcases hor x hy with h' | h'
        · exact (h.sep x hx).1 (.inr (.inr (.inr (.inl ⟨j + 2, hr, h'⟩))))
        · have h5 := h.lt x hx
          have h6 := hg.size
          omega
      · rw [upd_other _ _ hrq] at hy
        exact (h.sep x hx).1 (.inr (.inr (.inr (.inl ⟨r, hr, hy⟩))))
    · by_cases hrq : r = j + 2
      · subst hrq
        rw [upd_same] at hm'
        rcases List.mem_append.1 hm' with hm' | hm'
        · exact (h.sep x hx).1 (.inr (.inr (.inr (.inr ⟨j + 2, hr, m', hm', hy⟩))))
        · simp at hm'
          subst hm'
          cases hy
      · rw [upd_other _ _ hrq] at hm'
        exact (h.sep x hx).1 (.inr (.inr (.inr (.inr ⟨r, hr, m', hm', hy⟩))))
  · have h5 := h.lt x hx
    have h6 := hg.size
    have h7 := hO.size
    have h8 : (W3.setCell ⟨sd j, 2, none⟩ v').heap.size = W3.heap.size := by simp
    omega
  · obtain ⟨s1, s2, s3⟩ := h.same r hr
    rw [upd_other _ _ (show r ≠ j + 2 by omega)]
    by_cases hrq : r = j
    · subst hrq
      rw [upd_same]
      refine ⟨s1, s2, ?_⟩
      rw [← s3]
      funext x
      unfold etF
      by_cases hx : x < (ml1 (r + 2)).length
      · rw [List.getElem?_append_left hx]
      · rw [List.getElem?_append_right (by omega)]
        have h1 : (ml1 (r + 2))[x]? = none := by simp; omega
        rw [h1]
        by_cases h2 : x - (ml1 (r + 2)).length = 0
        · rw [h2]; rfl
        · have h3 : [(⟨nilS, [], [], true, false, false, 0⟩ : Ms)][x - (ml1 (r + 2)).length]? = none := by simp; omega
          rw [h3]
    · rw [upd_other _ _ (show r + 2 ≠ j + 2 by omega)]
      exact ⟨s1, s2, s3⟩
  · rw [upd_other _ _ (show k + 2 ≠ j + 2 by omega)]
    exact h.gk
  · rw [upd_same, List.length_append, List.length_singleton]
    omega
  · rw [upd_same]
    have : gtL (ml1 (j + 2) ++ [⟨nilS, [], [], true, false, false, 0⟩]) = gtL (ml1 (j + 2)) ++ [([], false)] := by simp [gtL]
    rw [this]
    exact n2
end
end Go.Proofs.YtbkpdapagfjmmaaGreatDoor
