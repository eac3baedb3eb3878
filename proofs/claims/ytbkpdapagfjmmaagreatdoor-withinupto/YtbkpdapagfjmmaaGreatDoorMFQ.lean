import Derived.Test.YtbkpdapagfjmmaaGreatDoorMFOS1
import Derived.Test.YtbkpdapagfjmmaaGreatDoorMSpec16Spec19
/-
  What is told by an end that is fed piece by piece.
-/
namespace Go.Proofs.YtbkpdapagfjmmaaGreatDoor
open Go.RowKit

theorem take_piece (b : ByteArray) (i j : Nat) (h : i ≤ j) : b.data.toList.take j = b.data.toList.take i ++ (b.extract i j).data.toList := by
  rw [extract_list]
  have := List.take_add (l := b.data.toList) (i := i) (j := j - i)
  rw [show i + (j - i) = j from by omega] at this
  exact this
/-- What was told so far is what is told of the first so many bytes. -/
def Along (E0 : Lk.En) (L : Lk.Bs) (last : Nat) (e1 : Lk.En) (evl : List Lk.Ev) : Prop :=
  ∀ p, (E0.feed (L.take last ++ p)).1 = evl ++ (e1.feed p).1 ∧ (E0.feed (L.take last ++ p)).2.at [] = (e1.feed p).2.at []
theorem Along.start (E0 : Lk.En) (L : Lk.Bs) : Along E0 L 0 E0 [] := fun p => by simp
theorem Along.step {E0 : Lk.En} {L : Lk.Bs} {last next : Nat} {e1 : Lk.En} {evl : List Lk.Ev} {p : Lk.Bs} (h : Along E0 L last e1 evl) (hp : L.take next = L.take last ++ p) : Along E0 L next (e1.feed p).2 (evl ++ (e1.feed p).1) := fun q => by
  obtain ⟨h1, h2⟩ := h (p ++ q)
  obtain ⟨h3, h4⟩ := e1.feed_append p q
  rw [hp, List.append_assoc, h1, h2, h3, h4, List.append_assoc]
  exact ⟨rfl, rfl⟩
theorem Along.end {E0 : Lk.En} {L : Lk.Bs} {last : Nat} {e1 : Lk.En} {evl : List Lk.Ev} (h : Along E0 L last e1 evl) (hl : L.length ≤ last) (hw : Lk.Wf e1) : (E0.feed L).1 = evl ∧ (E0.feed L).2.at [] = e1.at [] := by
  have := h []
  rw [List.append_nil, List.take_of_length_le hl, Lk.En.feed_none hw, List.append_nil] at this
  exact this
theorem Along.len {E0 : Lk.En} {L : Lk.Bs} {last : Nat} {e1 : Lk.En} {evl : List Lk.Ev} (h : Along E0 L last e1 evl) (h0 : E0.rest = []) : evl.length ≤ L.length := by
  have := (h []).1
  have h2 := E0.feed_len (L.take last ++ [])
  rw [this, h0] at h2
  simp at h2
  omega

theorem evsV_at (l : List EvH) : ∀ (i : Nat) (h : i < l.length), (evsV l)[i * 5]? = some (.int .i64 (l[i].1.k : Int)) ∧ (evsV l)[i * 5 + 1]? = some (.int .i64 (l[i].1.st : Int)) ∧ (evsV l)[i * 5 + 2]? = some (.int .i64 (l[i].1.n : Int)) ∧ (evsV l)[i * 5 + 3]? = some l[i].2 ∧ (evsV l)[i * 5 + 4]? = some (.string (bs l[i].1.t)) := by
  induction l with
  | nil => intro i h; simp at h
  | cons f fs ih =>
    intro i h
    cases i with
    | zero => simp [evsV, evV]
    | succ i =>
      have := ih i (by simpa using h)
      simp only [evsV, List.flatMap_cons, List.getElem_cons_succ] at this ⊢
      have e : (i + 1) * 5 = i * 5 + 5 := by omega
      rw [e]
      simpa [evV] using this
/-- What a list of events is, for the walk. -/
theorem owned_evs {w : World} {B : Nat} {v : Value} {l : List EvH} (h : w.ownsRow B 116 5 v l.length (evsV l)) :
    (l = [] ∧ v = .slice none 0 0) ∨ ∃ g cap, v = .slice (some ⟨g, 0, none⟩) l.length cap ∧ B ≤ g ∧ g < w.heap.size ∧ ∀ i (h : i < l.length), w.cell? ⟨g, i * 5, none⟩ = some (.int .i64 (l[i].1.k : Int)) ∧ w.cell? ⟨g, i * 5 + 1, none⟩ = some (.int .i64 (l[i].1.st : Int)) ∧ w.cell? ⟨g, i * 5 + 2, none⟩ = some (.int .i64 (l[i].1.n : Int)) ∧ w.cell? ⟨g, i * 5 + 3, none⟩ = some l[i].2 ∧ w.cell? ⟨g, i * 5 + 4, none⟩ = some (.string (bs l[i].1.t)) := by
  rcases h.2 with ⟨rfl, h0⟩ | ⟨g, cap, cur, rfl, hB, hg, hn, hc, hs, ht⟩
  · exact .inl ⟨List.eq_nil_of_length_eq_zero h0, rfl⟩
  · have hI : Is w g 116 cur.toList := by unfold Is; simpa using hg
    refine .inr ⟨g, cap, rfl, hB, hI.lt, fun i hi => ?_⟩
    have e := evsV_at l i hi
    have hc : ∀ j, j < l.length * 5 → w.cell? ⟨g, j, none⟩ = (evsV l)[j]? := by
      intro j hj
      rw [hI.cell j, ← ht, List.getElem?_take_of_lt hj]
    rw [hc _ (by omega), hc _ (by omega), hc _ (by omega), hc _ (by omega), hc _ (by omega)]
    exact e

theorem below_dn {B : Nat} {w w1 : World} (h : Below B w w1) (n : Nat) : Below B w (w1.drewN n) := ⟨h.os, h.tape, h.output, h.size, h.block⟩
theorem cells_news (w : World) (xs : List Value) (T : TypeId) : ∀ j u, xs[j]? = some u → (w.alloc (.cells xs.toArray T)).drew.cell? ((⟨w.heap.size, 0, none⟩ : Addr).add j) = some u := by
  intro j u hu
  have hplain : (⟨w.heap.size, 0, none⟩ : Addr).add j = ⟨w.heap.size, j, none⟩ := by unfold Addr.add; split <;> simp_all
  rw [hplain]
  have := (Is.new w T xs).cell j
  rw [← hu]
  exact this
end Go.Proofs.YtbkpdapagfjmmaaGreatDoor
