import Derived.Test.YtbkpdapagfjmmaaGreatDoorMS2J1
import Derived.Test.YtbkpdapagfjmmaaGreatDoorMSpec16Spec19
import Derived.Test.YtbkpdapagfjmmaaGreatDoorMSpec20Spec21
/-
  Two ends that belong together: the mathematics, side by number.
-/
namespace Go.Proofs.YtbkpdapagfjmmaaGreatDoor

def hsL (l : List Ms) : List (List Lk.Hd) := l.map Ms.hs
def bdF (l : List Ms) : Nat → Lk.Bs := fun i => ((l[i]?).map Ms.body).getD []
def gtL (l : List Ms) : List (Lk.Bs × Bool) := l.map fun m => (m.body, m.en)
def etF (l : List Ms) : Nat → Nat := fun i => ((l[i]?).map Ms.et).getD 0
theorem hsL_len (l : List Ms) : (hsL l).length = l.length := by simp [hsL]
theorem gtL_len (l : List Ms) : (gtL l).length = l.length := by simp [gtL]

def JMat (k j : Nat) (e : Nat → Lk.En) (pipe : Nat → Lk.Bs) (ml : Nat → List Ms) : Prop :=
  ∃ ta tb, Lk.Joins (e k) (e j) (pipe k) (pipe j) (hsL (ml k)) (hsL (ml j)) (bdF (ml k)) ta (bdF (ml j)) tb (gtL (ml (k + 2))) (gtL (ml (j + 2))) (etF (ml (k + 2))) (etF (ml (j + 2)))
theorem JMat.swap {k j : Nat} {e : Nat → Lk.En} {pipe : Nat → Lk.Bs} {ml : Nat → List Ms} (h : JMat k j e pipe ml) : JMat j k e pipe ml := by
  obtain ⟨ta, tb, h⟩ := h
  exact ⟨tb, ta, h.swap⟩
theorem JMat.to {k j i l : Nat} {e : Nat → Lk.En} {pipe : Nat → Lk.Bs} {ml : Nat → List Ms} (h : JMat k j e pipe ml) (hk : k < 2) (hj : j < 2) (hkj : k ≠ j) (hi : i < 2) (hl : l < 2) (hil : i ≠ l) : JMat i l e pipe ml := by
  by_cases hik : i = k
  · subst hik
    have : l = j := by omega
    subst this
    exact h
  · have h1 : i = j := by omega
    have h2 : l = k := by omega
    subst h1 h2
    exact h.swap
/-- All that is known of two ends that belong together, n steps on. -/
structure JS (e : Nat → Lk.En) (pipe : Nat → Lk.Bs) (ml : Nat → List Ms) (n : Nat) : Prop where
  jm : JMat 0 1 e pipe ml
  mass : (e 0).mass + (e 0).rest.length + (pipe 0).length + ((e 1).mass + (e 1).rest.length + (pipe 1).length) ≤ 2300 * n + (e 0).oth.length + (e 1).oth.length
  sd : ∀ k, k < 2 → (e k).side = k

section
variable {e : Nat → Lk.En} {pipe : Nat → Lk.Bs} {ml ml' : Nat → List Ms} {n k j : Nat}

theorem JS.at (h : JS e pipe ml n) (hk : k < 2) (hj : j < 2) (hkj : k ≠ j) : JMat k j e pipe ml := h.jm.to (by omega) (by omega) (by omega) hk hj hkj
theorem JS.massAt (h : JS e pipe ml n) (hk : k < 2) (hj : j < 2) (hkj : k ≠ j) : (e k).mass + (e k).rest.length + (pipe k).length + ((e j).mass + (e j).rest.length + (pipe j).length) ≤ 2300 * n + (e k).oth.length + (e j).oth.length := by
  have := h.mass
  have : (k = 0 ∧ j = 1) ∨ (k = 1 ∧ j = 0) := by omega
  rcases this with ⟨rfl, rfl⟩ | ⟨rfl, rfl⟩ <;> omega
/-- It is enough to know it from one side. -/
theorem JS.of (hk : k < 2) (hj : j < 2) (hkj : k ≠ j) (h1 : JMat k j e pipe ml) (h2 : (e k).mass + (e k).rest.length + (pipe k).length + ((e j).mass + (e j).rest.length + (pipe j).length) ≤ 2300 * n + (e k).oth.length + (e j).oth.length) (h3 : (e k).side = k) (h4 : (e j).side = j) : JS e pipe ml n := by
  refine ⟨h1.to hk hj hkj (by omega) (by omega) (by omega), ?_, fun i hi => ?_⟩
  · have : (k = 0 ∧ j = 1) ∨ (k = 1 ∧ j = 0) := by omega
    rcases this with ⟨rfl, rfl⟩ | ⟨rfl, rfl⟩ <;> omega
  · have : i = k ∨ i = j := by omega
    rcases this with rfl | rfl <;> assumption
theorem JS.wf (h : JS e pipe ml n) (hk : k < 2) : Lk.Wf (e k) ∧ (e k).down = 0 ∧ (ml k).length = (e k).own.length ∧ (ml (k + 2)).length ≤ (ml k).length := by
  obtain ⟨ta, tb, hJ⟩ := h.at hk (j := 1 - k) (by omega) (by omega)
  have := hJ.up
  rw [hsL_len, gtL_len, hsL_len] at this
  exact ⟨this.2.2.1, this.1, this.2.2.2.2.1, this.2.2.2.2.2.2.1⟩
theorem JS.len (h : JS e pipe ml n) {q : Nat} (hq : q < 4) : (ml q).length ≤ 134217729 := by
  have key : ∀ k, k < 2 → (ml k).length ≤ 134217729 ∧ (ml (k + 2)).length ≤ 134217729 := fun k hk => by
    obtain ⟨h1, _, h3, h4⟩ := h.wf hk
    have := h1.ownLen
    omega
  have : q = 0 ∨ q = 1 ∨ q = 0 + 2 ∨ q = 1 + 2 := by omega
  rcases this with rfl | rfl | rfl | rfl
  · exact (key 0 (by omega)).1
  · exact (key 1 (by omega)).1
  · exact (key 0 (by omega)).2
  · exact (key 1 (by omega)).2
theorem JS.small (h : JS e pipe ml n) (hn : n ≤ 2 ^ 21) (hk : k < 2) : (e k).mass ≤ 2 ^ 38 ∧ (pipe k).length ≤ 2 ^ 38 := by
  have h1 := h.mass
  have h2 := (h.wf (k := 0) (by omega)).1.othLen
  have h3 := (h.wf (k := 1) (by omega)).1.othLen
  have : k = 0 ∨ k = 1 := by omega
  rcases this with rfl | rfl <;> omega
theorem JS.later (h : JS e pipe ml n) {m : Nat} (hm : n ≤ m) : JS e pipe ml m := ⟨h.jm, Nat.le_trans h.mass (by omega), h.sd⟩
/-- The messages in other words. -/
theorem JS.same (h : JS e pipe ml n) (hh : ∀ k, k < 2 → hsL (ml' k) = hsL (ml k) ∧ bdF (ml' k) = bdF (ml k) ∧ gtL (ml' (k + 2)) = gtL (ml (k + 2)) ∧ etF (ml' (k + 2)) = etF (ml (k + 2))) : JS e pipe ml' n := by
  refine ⟨?_, h.mass, h.sd⟩
  obtain ⟨ta, tb, hJ⟩ := h.jm
  obtain ⟨a1, a2, a3, a4⟩ := hh 0 (by omega)
  obtain ⟨b1, b2, b3, b4⟩ := hh 1 (by omega)
  refine ⟨ta, tb, ?_⟩
  rw [a1, a2, a3, a4, b1, b2, b3, b4]
  exact hJ

/-- An end does something that leaves all else as it is. -/
theorem JS.one (h : JS e pipe ml n) (hk : k < 2) (hj : j < 2) (hkj : k ≠ j) {e' : Lk.En} (h1 : JMat k j (upd e k e') pipe ml') (h2 : e'.mass ≤ (e k).mass + 2300) (h3 : e'.side = (e k).side) (h4 : (e k).oth.length ≤ e'.oth.length) (h5 : e'.rest = (e k).rest) : JS (upd e k e') pipe ml' (n + 1) := by
  have hm := h.massAt hk hj hkj
  refine JS.of hk hj hkj h1 ?_ ?_ ?_
  · rw [upd_same, upd_other _ _ (Ne.symm hkj), h5]
    omega
  · rw [upd_same, h3]
    exact h.sd k hk
  · rw [upd_other _ _ (Ne.symm hkj)]
    exact h.sd j hj
theorem upd_at {α : Type} (f : Nat → α) {k j : Nat} (x : α) (h : k ≠ j) : upd f k x k = x ∧ upd f k x j = f j := ⟨upd_same _ _ _, upd_other _ _ (Ne.symm h)⟩
theorem JS.ping (h : JS e pipe ml n) (hk : k < 2) (t : Lk.Bs) : JS (upd e k ((e k).pingC t).2) pipe ml (n + 1) ∧ (((e k).pingC t).1 = 0 ∨ t.length ≠ 8) := by
  obtain ⟨j, hj, hkj⟩ : ∃ j, j < 2 ∧ k ≠ j := ⟨1 - k, by omega, by omega⟩
  obtain ⟨ta, tb, hJ⟩ := h.at hk hj hkj
  obtain ⟨h1, h2⟩ := hJ.pingC t
  obtain ⟨s1, s2, s3⟩ := Lk.pingC_side (e k) t
  have hm := Lk.pingC_mass (e k) t
  refine ⟨h.one hk hj hkj ⟨ta, tb, ?_⟩ (by omega) s1 (by rw [s2]; omega) s3, h2⟩
  rw [(upd_at e _ hkj).1, (upd_at e _ hkj).2]
  exact h1
theorem JS.bye (h : JS e pipe ml n) (hk : k < 2) : JS (upd e k (e k).byeC'.2) pipe ml (n + 1) := by
  obtain ⟨j, hj, hkj⟩ : ∃ j, j < 2 ∧ k ≠ j := ⟨1 - k, by omega, by omega⟩
  obtain ⟨ta, tb, hJ⟩ := h.at hk hj hkj
  obtain ⟨s1, s2, s3⟩ := Lk.byeC_side (e k)
  have hm := Lk.byeC_mass (h.wf hk).1
  refine h.one hk hj hkj ⟨ta, tb, ?_⟩ (by omega) s1 (by rw [s2]; omega) s3
  rw [(upd_at e _ hkj).1, (upd_at e _ hkj).2]
  exact hJ.byeC'
theorem bdF_push (l : List Ms) (m : Ms) : bdF (l ++ [m]) = Lk.updN (bdF l) l.length m.body := by
  funext i
  unfold bdF Lk.updN
  by_cases hi : i < l.length
  · rw [List.getElem?_append_left hi, if_neg (by omega)]
  · rw [List.getElem?_append_right (by omega)]
    by_cases he : i = l.length
    · subst he
      simp
    · rw [if_neg he]
      have h1 : l[i]? = none := by simp; omega
      have h2 : [m][i - l.length]? = none := by simp; omega
      simp only [h1, h2]
theorem upd_self_e (e : Nat → Lk.En) (k : Nat) : upd e k (e k) = e := by
  funext i
  unfold upd
  split
  · rename_i h; rw [h]
  · rfl
theorem JS.submit (h : JS e pipe ml n) (hk : k < 2) (l : List Lk.Hd) (body : Lk.Bs) (hv : Value) :
    (((e k).submitC l body).1.2.1 ≠ 0 ∧ JS (upd e k ((e k).submitC l body).2) pipe ml (n + 1)) ∨
    (((e k).submitC l body).1 = (2 * (ml k).length + 1 + k, 0, 0) ∧ JS (upd e k ((e k).submitC l body).2) pipe (upd ml k (ml k ++ [⟨hv, l, body, false, false, false, 0⟩])) (n + 1)) := by
  obtain ⟨j, hj, hkj⟩ : ∃ j, j < 2 ∧ k ≠ j := ⟨1 - k, by omega, by omega⟩
  obtain ⟨ta, tb, hJ⟩ := h.at hk hj hkj
  obtain ⟨s1, s2, s3⟩ := Lk.submitC_side (e k) l body
  have hm := Lk.submitC_mass (e k) l body
  rcases hJ.submitC l body with ⟨h1, h2⟩ | ⟨h1, h2⟩
  · refine .inl ⟨h1, ?_⟩
    rw [h2, upd_self_e]
    exact h.later (by omega)
  · rw [hsL_len, h.sd k hk] at h1
    refine .inr ⟨h1, h.one hk hj hkj ⟨Lk.updN ta (ml k).length [], tb, ?_⟩ (by omega) s1 (by rw [s2]; omega) s3⟩
    rw [(upd_at e _ hkj).1, (upd_at e _ hkj).2, upd_same, upd_other _ _ (Ne.symm hkj), upd_other _ _ (show k + 2 ≠ k by omega), upd_other _ _ (show j + 2 ≠ k by omega), bdF_push]
    rw [hsL_len] at h2
    have : hsL (ml k ++ [⟨hv, l, body, false, false, false, 0⟩]) = hsL (ml k) ++ [l] := by simp [hsL]
    rw [this]
    exact h2
theorem gtL_set {l : List Ms} {i : Nat} {m x : Ms} (hx : l[i]? = some x) (h1 : m.body = x.body) (h2 : m.en = x.en) : gtL (l.set i m) = gtL l := by
  unfold gtL
  rw [List.map_set]
  have : (l.map fun m => (m.body, m.en))[i]? = some (m.body, m.en) := by rw [List.getElem?_map, hx, h1, h2]; rfl
  obtain ⟨hlt, hxx⟩ := List.getElem?_eq_some_iff.1 this
  rw [← hxx]
  exact List.set_getElem_self hlt
theorem etF_set {l : List Ms} {i : Nat} {m x : Ms} (hx : l[i]? = some x) : etF (l.set i m) = fun j => if j = i then m.et else etF l j := by
  have hlt := (List.getElem?_eq_some_iff.1 hx).1
  funext j
  unfold etF
  by_cases h : j = i
  · subst h
    rw [if_pos rfl, List.getElem?_set_self hlt]
    rfl
  · rw [if_neg h, List.getElem?_set_ne (fun e => h e.symm)]
theorem JS.consume (h : JS e pipe ml n) (hk : k < 2) (hj : j < 2) (hkj : k ≠ j) (st c : Int) :
    (((e k).consumeC st c).1 ≠ 0 ∧ JS (upd e k ((e k).consumeC st c).2) pipe ml (n + 1)) ∨
    (((e k).consumeC st c).1 = 0 ∧ ∃ (i : Nat) (x : Ms), (ml (j + 2))[i]? = some x ∧ st = 2 * (i : Int) + 1 + j ∧ 1 ≤ c ∧ (x.et : Int) + c ≤ x.body.length ∧ JS (upd e k ((e k).consumeC st c).2) pipe (upd ml (j + 2) ((ml (j + 2)).set i { x with et := x.et + c.toNat })) (n + 1)) := by
  obtain ⟨ta, tb, hJ⟩ := h.at hk hj hkj
  obtain ⟨s1, s2, s3⟩ := Lk.consumeC_side (e k) st c
  have hm := Lk.consumeC_mass (h.wf hk).1 st c
  have htold : ∀ (i : Nat) (g : Lk.Bs × Bool), (gtL (ml (j + 2)))[i]? = some g → g.1 = tb i := by
    obtain ⟨Q, R, _, _, _, _, h5, _⟩ := hJ
    exact h5.told
  rcases hJ.consumeC st c with ⟨h1, h2⟩ | ⟨h1, i, h2, h3, h4, h5, h6⟩
  · refine .inl ⟨h1, ?_⟩
    rw [h2, upd_self_e]
    exact h.later (by omega)
  · rw [gtL_len] at h4
    have hx : (ml (j + 2))[i]? = some ((ml (j + 2))[i]'h4) := List.getElem?_eq_getElem h4
    generalize (ml (j + 2))[i]'h4 = x at hx
    have hb : x.body = tb i := htold i (x.body, x.en) (by unfold gtL; rw [List.getElem?_map, hx]; rfl)
    have hxe : etF (ml (j + 2)) i = x.et := by unfold etF; rw [hx]; rfl
    rw [hxe, ← hb] at h5
    rw [h.sd j hj] at h2
    refine .inr ⟨h1, i, x, hx, h2, h3, by omega, h.one hk hj hkj ⟨ta, tb, ?_⟩ (by omega) s1 (by rw [s2]; omega) s3⟩
    rw [(upd_at e _ hkj).1, (upd_at e _ hkj).2, upd_other _ _ (show k ≠ j + 2 by omega), upd_other _ _ (show j ≠ j + 2 by omega), upd_other _ _ (show k + 2 ≠ j + 2 by omega), upd_same, gtL_set hx (m := { x with et := x.et + c.toNat }) rfl rfl, etF_set hx]
    rw [hxe] at h6
    exact h6
theorem JS.reset (h : JS e pipe ml n) (hk : k < 2) (hj : j < 2) (hkj : k ≠ j) (st c : Int) : JS (upd e k ((e k).resetC st c).2) pipe ml (n + 1) ∧
    (((e k).resetC st c).1 = 0 → (∃ i : Nat, i < (ml k).length ∧ st = 2 * (i : Int) + 1 + k) ∨ (∃ i : Nat, i < (ml j).length ∧ st = 2 * (i : Int) + 1 + j)) := by
  obtain ⟨ta, tb, hJ⟩ := h.at hk hj hkj
  obtain ⟨s1, s2, s3⟩ := Lk.resetC_side (e k) st c
  have hm := Lk.resetC_mass (h.wf hk).1 st c
  obtain ⟨h1, h2⟩ := hJ.resetC st c
  rw [hsL_len, hsL_len, h.sd k hk, h.sd j hj] at h2
  refine ⟨h.one hk hj hkj ⟨ta, tb, ?_⟩ (by omega) s1 (by rw [s2]; omega) s3, fun h0 => ?_⟩
  · rw [(upd_at e _ hkj).1, (upd_at e _ hkj).2]
    exact h1
  · rcases h2 h0 with ⟨i, hi, hst⟩ | ⟨i, hi, hst⟩
    · exact .inl ⟨i, hi, hst⟩
    · exact .inr ⟨i, hi, hst⟩
theorem JS.drain (h : JS e pipe ml n) (hk : k < 2) (c : Nat) : JS (upd e k (Lk.En.drain c (e k)).2) (upd pipe k (pipe k ++ (Lk.En.drain c (e k)).1)) ml n := by
  obtain ⟨j, hj, hkj⟩ : ∃ j, j < 2 ∧ k ≠ j := ⟨1 - k, by omega, by omega⟩
  obtain ⟨ta, tb, hJ⟩ := h.at hk hj hkj
  obtain ⟨s1, s2, s3⟩ := Lk.drain_side c (e k)
  have hm := Lk.drain_mass c (h.wf hk).1
  have hma := h.massAt hk hj hkj
  refine JS.of hk hj hkj ⟨ta, tb, ?_⟩ ?_ ?_ ?_
  · rw [(upd_at e _ hkj).1, (upd_at e _ hkj).2, (upd_at pipe _ hkj).1, (upd_at pipe _ hkj).2]
    exact hJ.drain c
  · rw [(upd_at e _ hkj).1, (upd_at e _ hkj).2, (upd_at pipe _ hkj).1, (upd_at pipe _ hkj).2, s2, s3, List.length_append]
    omega
  · rw [(upd_at e _ hkj).1, s1]
    exact h.sd k hk
  · rw [(upd_at e _ hkj).2]
    exact h.sd j hj
/-- Bytes of side k come to side j. -/
theorem JS.move (h : JS e pipe ml n) (hk : k < 2) (hj : j < 2) (hkj : k ≠ j) {x y : Lk.Bs} (hxy : pipe k = x ++ y) : ((e j).feed x).2.down = 0 ∧ ∃ G', Lk.hearL k (hsL (ml k)) (bdF (ml k)) (gtL (ml (k + 2))) ((e j).feed x).1 = some G' ∧
    ∀ ml' : Nat → List Ms, (∀ i, i < 2 → hsL (ml' i) = hsL (ml i) ∧ bdF (ml' i) = bdF (ml i) ∧ etF (ml' (i + 2)) = etF (ml (i + 2))) → gtL (ml' (k + 2)) = G' → gtL (ml' (j + 2)) = gtL (ml (j + 2)) → JS (upd e j ((e j).feed x).2) (upd pipe k y) ml' (n + 1) := by
  obtain ⟨ta, tb, hJ⟩ := h.at hk hj hkj
  rw [hxy] at hJ
  obtain ⟨h1, ta', G', h2, h3⟩ := hJ.move
  rw [h.sd k hk] at h2
  refine ⟨h1, G', h2, fun ml' hml hG hG2 => ?_⟩
  obtain ⟨s1, s2⟩ := Lk.feed_side (e j) x
  have hm := Lk.feed_mass2 (h.wf hj).1 x
  have hma := h.massAt hk hj hkj
  rw [hxy, List.length_append] at hma
  obtain ⟨a1, a2, a3⟩ := hml k hk
  obtain ⟨b1, b2, b3⟩ := hml j hj
  refine JS.of hk hj hkj ⟨ta', tb, ?_⟩ ?_ ?_ ?_
  · rw [(upd_at e _ (Ne.symm hkj)).1, (upd_at e _ (Ne.symm hkj)).2, (upd_at pipe _ hkj).1, (upd_at pipe _ hkj).2, a1, a2, a3, b1, b2, b3, hG, hG2]
    exact h3
  · rw [(upd_at e _ (Ne.symm hkj)).1, (upd_at e _ (Ne.symm hkj)).2, (upd_at pipe _ hkj).1, (upd_at pipe _ hkj).2]
    omega
  · rw [(upd_at e _ (Ne.symm hkj)).2]
    exact h.sd k hk
  · rw [(upd_at e _ (Ne.symm hkj)).1, s2]
    exact h.sd j hj
theorem JS.start {win : Nat} (h1 : 1 ≤ win) (h2 : win ≤ 200) : JS (fun k => Lk.En.new k win) (fun _ => []) (fun _ => []) 0 := by
  refine ⟨⟨fun _ => [], fun _ => [], ?_⟩, ?_, fun k hk => rfl⟩
  · have : bdF ([] : List Ms) = fun _ => [] := by funext i; simp [bdF]
    have h3 : etF ([] : List Ms) = fun _ => 0 := by funext i; simp [etF]
    simp only [this, h3]
    exact Lk.Joins.start 0 1 win rfl h1 h2
  · rw [Lk.new_mass, Lk.new_mass]
    simp [Lk.En.new]
end
end Go.Proofs.YtbkpdapagfjmmaaGreatDoor

/-
  Walks: the number of a stream among those of a side.
-/
namespace Go.Proofs.YtbkpdapagfjmmaaGreatDoor
open Go.RowKit

/-- What index answers. -/
def ixN (st : Int) (k : Nat) : Int := if st - 1 - k < 0 ∨ (st - 1 - k) % 2 ≠ 0 then -1 else (st - 1 - k) / 2
theorem ixN_of {st : Int} {k i : Nat} (h : st = 2 * (i : Int) + 1 + k) : ixN st k = i := by
  unfold ixN
  rw [if_neg (by omega)]
  omega
theorem ixN_nat {st k : Nat} : (∃ i : Nat, st = 2 * i + 1 + k ∧ ixN st k = i) ∨ ((∀ i : Nat, st ≠ 2 * i + 1 + k) ∧ ixN st k = -1) := by
  by_cases h : ∃ i : Nat, st = 2 * i + 1 + k
  · obtain ⟨i, hi⟩ := h
    exact .inl ⟨i, hi, ixN_of (by omega)⟩
  · refine .inr ⟨fun i hi => h ⟨i, hi⟩, ?_⟩
    unfold ixN
    rw [if_pos]
    by_cases h0 : (st : Int) - 1 - k < 0
    · exact .inl h0
    · refine .inr (fun hm => h ⟨(((st : Int) - 1 - k) / 2).toNat, by omega⟩)
theorem index_any (st : Int) (k : Nat) (hk : k < 2) (w : World) (h1 : -4611686018427387904 ≤ st) (h2 : st ≤ 9223372036854775807) :
    Calls Tryz.prog 24 #[.int .i64 st, .int .i64 (k : Int)] w fun r w' => r = .returned (.int .i64 (ixN st k)) ∧ w' = w := by
  unfold ixN
  by_cases c1 : st - 1 - k < 0
  · rw [if_pos (.inl c1)]
    go_enter Tryz.func24, Tryz.ntmps24
    go_wp2
    go_ret
    exact ⟨rfl, rfl⟩
  · by_cases c2 : (st - 1 - k) % 2 = 0
    · rw [if_neg (by simp [c1, c2])]
      go_enter Tryz.func24, Tryz.ntmps24
      go_wp2
      go_ret
      exact ⟨rfl, rfl⟩
    · rw [if_pos (.inr c2)]
      have c2' : ((st - 1 - k) % 2 != 0) = true := by simpa using c2
      clear c2
      go_enter Tryz.func24, Tryz.ntmps24
      go_wp2
      go_ret
      exact ⟨rfl, rfl⟩
/-- Whatever number comes: something is answered. -/
theorem index_wild (st : Int) (k : Nat) (hk : k < 2) (w : World) (h1 : -9223372036854775808 ≤ st) (h2 : st ≤ 9223372036854775807) :
    Calls Tryz.prog 24 #[.int .i64 st, .int .i64 (k : Int)] w fun r w' => (∃ x, r = .returned (.int .i64 x) ∧ (-4611686018427387904 ≤ st → x = ixN st k)) ∧ w' = w := by
  by_cases c0 : -4611686018427387904 ≤ st
  · refine (index_any st k hk w c0 h2).mono ?_
    rintro r w' ⟨rfl, rfl⟩
    exact ⟨⟨_, rfl, fun _ => rfl⟩, rfl⟩
  · by_cases c1 : -9223372036854775808 ≤ st - 1 - k
    · go_enter Tryz.func24, Tryz.ntmps24
      go_wp2
      go_ret
      exact ⟨⟨_, rfl, fun h => absurd h (by omega)⟩, rfl⟩
    · go_enter Tryz.func24, Tryz.ntmps24
      go_wp2
      · go_ret
        exact ⟨⟨_, rfl, fun h => absurd h (by omega)⟩, rfl⟩
      · go_ret
        exact ⟨⟨_, rfl, fun h => absurd h (by omega)⟩, rfl⟩
      · go_ret
        exact ⟨⟨_, rfl, fun h => absurd h (by omega)⟩, rfl⟩
end Go.Proofs.YtbkpdapagfjmmaaGreatDoor
