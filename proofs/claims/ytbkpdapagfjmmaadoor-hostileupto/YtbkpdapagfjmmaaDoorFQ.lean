import Derived.Test.YtbkpdapagfjmmaaDoorFO
import Derived.Test.YtbkpdapagfjmmaaDoorMFPSpec18
/-
  What is told by an end that is fed piece by piece.
-/
namespace Go.Proofs.YtbkpdapagfjmmaaDoor
open Go.RowKit

theorem take_piece (b : ByteArray) (i j : Nat) (h : i ≤ j) : b.data.toList.take j = b.data.toList.take i ++ (b.extract i j).data.toList := by
  rw [extract_list]
  have := List.take_add (l := b.data.toList) (i := i) (j := j - i)
  rw [show i + (j - i) = j from by omega] at this
  exact this
/-- What was told so far is what is told of the first so many bytes. -/
def Along (E0 : Lk.En) (L : Lk.Bs) (last : Nat) (e1 : Lk.En) (evl : List Lk.Ev) : Prop :=
  ∀ p, (E0.feed (L.take last ++ p)).1 = evl ++ (e1.feed p).1 ∧ (E0.feed (L.take last ++ p)).2.at [] = (e1.feed p).2.at []
theorem Along.start (E0 : Lk.En) (L : Lk.Bs) : Along E0 L 0 E0 [] := fun p => by simp
theorem Along.step {E0 : Lk.En} {L : Lk.Bs} {last next : Nat} {e1 : Lk.En} {evl : List Lk.Ev} {p : Lk.Bs} (h : Along E0 L last e1 evl) (hp : L.take next = L.take last ++ p) : Along E0 L next (e1.feed p).2 (evl ++ (e1.feed p).1) := fun q => by
  obtain ⟨h1, h2⟩ := h (p ++ q)
  obtain ⟨h3, h4⟩ := e1.feed_append p q
  rw [hp, List.append_assoc, h1, h2, h3, h4, List.append_assoc]
  exact ⟨rfl, rfl⟩
theorem Along.end {E0 : Lk.En} {L : Lk.Bs} {last : Nat} {e1 : Lk.En} {evl : List Lk.Ev} (h : Along E0 L last e1 evl) (hl : L.length ≤ last) (hw : Lk.Wf e1) : (E0.feed L).1 = evl ∧ (E0.feed L).2.at [] = e1.at [] := by
  have := h []
  rw [List.append_nil, List.take_of_length_le hl, Lk.En.feed_none hw, List.append_nil] at this
  exact this
theorem Along.len {E0 : Lk.En} {L : Lk.Bs} {last : Nat} {e1 : Lk.En} {evl : List Lk.Ev} (h : Along E0 L last e1 evl) (h0 : E0.rest = []) : evl.length ≤ L.length := by
  have := (h []).1
  have h2 := E0.feed_len (L.take last ++ [])
  rw [this, h0] at h2
  simp at h2
  omega

theorem evsV_at (l : List EvH) : ∀ (i : Nat) (h : i < l.length), (evsV l)[i * 5]? = some (.int .i64 (l[i].1.k : Int)) ∧ (evsV l)[i * 5 + 1]? = some (.int .i64 (l[i].1.st : Int)) ∧ (evsV l)[i * 5 + 2]? = some (.int .i64 (l[i].1.n : Int)) ∧ (evsV l)[i * 5 + 3]? = some l[i].2 ∧ (evsV l)[i * 5 + 4]? = some (.string (bs l[i].1.t)) := by
  induction l with
  | nil => intro i h; simp at h
  | cons f fs ih =>
    intro i h
    cases i with
    | zero => simp [evsV, evV]
    | succ i =>
      have := ih i (by simpa using h)
      simp only [evsV, List.flatMap_cons, List.getElem_cons_succ] at this ⊢
      have e : (i + 1) * 5 = i * 5 + 5 := by omega
      rw [e]
      simpa [evV] using this
/-- What a list of events is, for the walk. -/
theorem owned_evs {w : World} {B : Nat} {v : Value} {l : List EvH} (h : w.ownsRow B 54 5 v l.length (evsV l)) :
    (l = [] ∧ v = .slice none 0 0) ∨ ∃ g cap, v = .slice (some ⟨g, 0, none⟩) l.length cap ∧ B ≤ g ∧ g < w.heap.size ∧ ∀ i (h : i < l.length), w.cell? ⟨g, i * 5, none⟩ = some (.int .i64 (l[i].1.k : Int)) ∧ w.cell? ⟨g, i * 5 + 1, none⟩ = some (.int .i64 (l[i].1.st : Int)) ∧ w.cell? ⟨g, i * 5 + 2, none⟩ = some (.int .i64 (l[i].1.n : Int)) ∧ w.cell? ⟨g, i * 5 + 3, none⟩ = some l[i].2 ∧ w.cell? ⟨g, i * 5 + 4, none⟩ = some (.string (bs l[i].1.t)) := by
  rcases h.2 with ⟨rfl, h0⟩ | ⟨g, cap, cur, rfl, hB, hg, hn, hc, hs, ht⟩
  · exact .inl ⟨List.eq_nil_of_length_eq_zero h0, rfl⟩
  · have hI : Is w g 54 cur.toList := by unfold Is; simpa using hg
    refine .inr ⟨g, cap, rfl, hB, hI.lt, fun i hi => ?_⟩
    have e := evsV_at l i hi
    have hc : ∀ j, j < l.length * 5 → w.cell? ⟨g, j, none⟩ = (evsV l)[j]? := by
      intro j hj
      rw [hI.cell j, ← ht, List.getElem?_take_of_lt hj]
    rw [hc _ (by omega), hc _ (by omega), hc _ (by omega), hc _ (by omega), hc _ (by omega)]
    exact e

/-- What heard has: the end, what it told, and the last error. -/
structure Hr (w W : World) (ob b : Nat) (e1 : Lk.En) (d1 : PD) (v : Value) (evs : List EvH) (er : Int) : Prop where
  pe : PEnd W b e1 d1
  out : Is W ob 50 [v, .int .i64 er]
  row : W.ownsRow w.heap.size 54 5 v evs.length (evsV evs)
  hds : ∀ p ∈ evs, W.ownsRow w.heap.size 44 2 p.2 p.1.hs.length (hdsV p.1.hs)
  sep : ∀ i, saidFoot v evs i → ¬ foot b d1 i
  pos : ∀ i, foot b d1 i → w.heap.size ≤ i
  nob : ¬ foot b d1 ob
  fx : Fx W
  bel : Below w.heap.size w W
  obw : w.heap.size ≤ ob
  w0 : 0 < w.heap.size
/-- While new events are put behind the others. -/
structure In1 (w W : World) (ob b : Nat) (e1 : Lk.En) (d1 : PD) (v : Value) (evs : List EvH) (er : Int) (v1 : Value) (news : List EvH) (q : Nat) : Prop where
  hr : Hr w W ob b e1 d1 v (evs ++ news.take q) er
  row1 : W.ownsRow w.heap.size 54 5 v1 news.length (evsV news)
  hds1 : ∀ p ∈ news, W.ownsRow w.heap.size 44 2 p.2 p.1.hs.length (hdsV p.1.hs)
  sep1 : ∀ i, saidFoot v1 news i → ¬ foot b d1 i
  ne : ∀ i, v1.ownBlock = some i → v.ownBlock ≠ some i
theorem Hr.below {w W W' : World} {ob b : Nat} {e1 : Lk.En} {d1 : PD} {v : Value} {evs : List EvH} {er : Int} (h : Hr w W ob b e1 d1 v evs er) (k : Below W.heap.size W W') : Hr w W' ob b e1 d1 v evs er :=
  ⟨h.pe.only (Only.of_below k (fun _ => False)) (fun _ _ h => h), h.out.below k h.out.lt, own_below h.row k, fun p hp => own_below (h.hds p hp) k, h.sep, h.pos, h.nob, h.fx.below k h.fx.1, h.bel.trans (k.mono h.bel.size), h.obw, h.w0⟩
/-- A Feed has come between. -/
theorem Hr.fed {w W W' : World} {ob b : Nat} {e1 e2 : Lk.En} {d1 : PD} {v v1 : Value} {evs : List EvH} {er : Int} {evl : List Lk.Ev} (h : Hr w W ob b e1 d1 v evs er) (hF : FPost W b d1 e2 evl v1 W') : ∃ d2 news, news.map Prod.fst = evl ∧ In1 w W' ob b e2 d2 v evs er v1 news 0 := by
  obtain ⟨d2, news, f1, f2, f3, f4, f5, f6⟩ := hF
  have hsz := h.bel.size
  refine ⟨d2, news, f1, ⟨⟨f2, h.out.only f6 h.nob, ?_, ?_, ?_, ?_, ?_, h.fx.only f6 ?_, ?_, h.obw, h.w0⟩, own_base hsz f3.row, fun p hp => own_base hsz (f3.hds p hp), f4, fun i hi hv => ?_⟩⟩
  · simpa using own_only h.row f6 (fun i hi => h.sep i (.inl hi))
  · intro p hp
    exact own_only (h.hds p (by simpa using hp)) f6 (fun i hi => h.sep i (.inr ⟨p, by simpa using hp, hi⟩))
  · intro i hi hf
    have hi' : saidFoot v evs i := by simpa using hi
    rcases f5 i hf with h' | h'
    · exact h.sep i hi' h'
    · rcases hi' with hx | ⟨p, hp, hx⟩
      · have := (h.row.lt i hx).2; omega
      · have := ((h.hds p hp).lt i hx).2; omega
  · intro i hi
    rcases f5 i hi with h' | h'
    · exact h.pos i h'
    · omega
  · intro hf
    rcases f5 ob hf with h' | h'
    · exact h.nob h'
    · have := h.out.lt; omega
  · intro hf
    have h3 := h.pe.pos 0 hf
    omega
  · exact h.bel.trans (f6.toBelow (fun i hi _ => h.pos i hi) hsz)
  · have h1 := (f3.row.lt i hi).1
    have h2 := (h.row.lt i hv).2
    omega
/-- One event more was put behind the others: by way of an append, and a store. -/
theorem In1.push {w W W3 : World} {ob b : Nat} {e1 : Lk.En} {d1 : PD} {v v1 : Value} {evs news : List EvH} {er : Int} {q g1 cap1 : Nat} {o : Obj} (h : In1 w W ob b e1 d1 v evs er v1 news q) (hq : q < news.length)
    (ho : W3.ownsRow w.heap.size 54 5 (.slice (some ⟨g1, 0, none⟩) ((evs ++ news.take q).length + 1) cap1) ((evs ++ news.take q).length + 1) (evsV (evs ++ news.take q) ++ evV news[q]))
    (hg : (W.alloc o).grownBy W3 v.ownBlock) (hor : v.ownBlock = some g1 ∨ (W.alloc o).heap.size ≤ g1) :
    In1 w (W3.setCell ⟨ob, 0, none⟩ (.slice (some ⟨g1, 0, none⟩) ((evs ++ news.take q).length + 1) cap1)) ob b e1 d1 (.slice (some ⟨g1, 0, none⟩) ((evs ++ news.take q).length + 1) cap1) evs er v1 news (q + 1) := by
  have hO : Only (fun i => v.ownBlock = some i) W W3 := ((Only.refl (fun i => v.ownBlock = some i) W).alloc o).grown hg (fun i hi _ => hi)
  have hS : Only (· = ob) W3 (W3.setCell ⟨ob, 0, none⟩ (.slice (some ⟨g1, 0, none⟩) ((evs ++ news.take q).length + 1) cap1)) := (Only.refl (· = ob) W3).set ob 0 _ (fun _ => rfl)
  have hob3 := h.hr.out.only hO (fun e => own_ne h.hr.row h.hr.out (Nat.ne_of_beq_eq_false rfl) e.symm)
  have hall : Only (fun i => v.ownBlock = some i ∨ i = ob) W (W3.setCell ⟨ob, 0, none⟩ (.slice (some ⟨g1, 0, none⟩) ((evs ++ news.take q).length + 1) cap1)) := (hO.mono (fun _ h => .inl h)).trans hS (fun i hi _ => .inr hi)
  have hsz : (W.alloc o).heap.size = W.heap.size + 1 := by simp
  have hg1 : v.ownBlock = some g1 ∨ W.heap.size ≤ g1 := hor.imp id (fun h => by omega)
  have hhd : ∀ (p : EvH) (n : Nat) (xs : List Value), W.ownsRow w.heap.size 44 2 p.2 n xs → (W3.setCell ⟨ob, 0, none⟩ (.slice (some ⟨g1, 0, none⟩) ((evs ++ news.take q).length + 1) cap1)).ownsRow w.heap.size 44 2 p.2 n xs := fun p n xs hp => own_only hp hall (fun i hi hx => by
    rcases hx with hx | rfl
    · rcases own_own_ne hp h.hr.row (Nat.ne_of_beq_eq_false rfl) with h' | h'
      · rw [h'] at hi; cases hi
      · exact h' (hi.trans hx.symm)
    · exact own_ne hp h.hr.out (Nat.ne_of_beq_eq_false rfl) hi.symm)
  have hobg : ob ≠ g1 := fun e => by
    subst e
    exact own_ne ho hob3 (Nat.ne_of_beq_eq_false rfl) rfl
  have hfoot : ∀ i, foot b d1 i → ¬ (v.ownBlock = some i ∨ i = ob) := fun i hi hx => by
    rcases hx with hx | rfl
    · exact h.hr.sep i (.inl hx) hi
    · exact h.hr.nob hi
  have htake : evs ++ news.take (q + 1) = (evs ++ news.take q) ++ [news[q]] := by rw [List.take_succ_eq_append_getElem hq, List.append_assoc]
  have hmem : ∀ p ∈ evs ++ news.take (q + 1), p ∈ evs ++ news.take q ∨ p ∈ news := fun p hp => by
    rw [htake] at hp
    rcases List.mem_append.1 hp with hp | hp
    · exact .inl hp
    · simp at hp
      subst hp
      exact .inr (List.getElem_mem hq)
  refine ⟨⟨h.hr.pe.only hall hfoot, hob3.set 0 _, ?_, fun p hp => ?_, fun i hi hf => ?_, h.hr.pos, h.hr.nob, h.hr.fx.only hall ?_, ?_, h.hr.obw, h.hr.w0⟩, ?_, fun p hp => hhd p _ _ (h.hds1 p hp), h.sep1, fun i hi hv => ?_⟩
  · have := own_only ho hS (fun i hi e => hobg (by simp [Value.ownBlock] at hi; omega))
    have hlen : (evs ++ news.take (q + 1)).length = (evs ++ news.take q).length + 1 := by rw [htake, List.length_append, List.length_singleton]
    rw [hlen, htake, evsV_append]
    have h1 : evsV [news[q]] = evV news[q] := by simp [evsV]
    rw [h1]
    exact this
  · rcases hmem p hp with hp | hp
    · exact hhd p _ _ (h.hr.hds p hp)
    · exact hhd p _ _ (h.hds1 p hp)
  · rcases hi with hi | ⟨p, hp, hi⟩
    · have hi' : g1 = i := by simpa [Value.ownBlock] using hi
      subst hi'
      rcases hg1 with h' | h'
      · exact h.hr.sep _ (.inl h') hf
      · have := h.hr.pe.lt _ hf; omega
    · rcases hmem p hp with hp | hp
      · exact h.hr.sep i (.inr ⟨p, hp, hi⟩) hf
      · exact h.sep1 i (.inr ⟨p, hp, hi⟩) hf
  · intro hx
    have h0 := h.hr.w0
    rcases hx with hx | hx
    · have h1 := (h.hr.row.lt 0 hx).1
      omega
    · have h1 := h.hr.obw
      omega
  · refine h.hr.bel.trans (hall.toBelow (fun i hi _ => ?_) h.hr.bel.size)
    rcases hi with hi | rfl
    · exact (h.hr.row.lt i hi).1
    · exact h.hr.obw
  · refine own_only h.row1 hall (fun i hi hx => ?_)
    rcases hx with hx | rfl
    · exact h.ne i hi hx
    · exact own_ne h.row1 h.hr.out (Nat.ne_of_beq_eq_false rfl) hi.symm
  · have hi' : g1 = i := by simpa [Value.ownBlock] using hv
    subst hi'
    rcases hg1 with h' | h'
    · exact h.ne _ hi h'
    · have := (h.row1.lt _ hi).2; omega
/-- The error is kept. -/
theorem In1.done {w W : World} {ob b : Nat} {e1 : Lk.En} {d1 : PD} {v v1 : Value} {evs news : List EvH} {er : Int} (h : In1 w W ob b e1 d1 v evs er v1 news news.length) (x : Int) : Hr w (W.setCell ⟨ob, 1, none⟩ (.int .i64 x)) ob b e1 d1 v (evs ++ news) x := by
  have hr := h.hr
  rw [List.take_length] at hr
  have hS : Only (· = ob) W (W.setCell ⟨ob, 1, none⟩ (.int .i64 x)) := (Only.refl (· = ob) W).set ob 1 _ (fun _ => rfl)
  refine ⟨hr.pe.only hS (fun i hi e => hr.nob (e ▸ hi)), hr.out.set 1 _, own_only hr.row hS (fun i hi e => ?_), fun p hp => own_only (hr.hds p hp) hS (fun i hi e => ?_), hr.sep, hr.pos, hr.nob, hr.fx.only hS ?_, ?_, hr.obw, hr.w0⟩
  · subst e
    exact own_ne hr.row hr.out (Nat.ne_of_beq_eq_false rfl) hi.symm
  · subst e
    exact own_ne (hr.hds p hp) hr.out (Nat.ne_of_beq_eq_false rfl) hi.symm
  · intro hx
    have h0 := hr.w0
    have h1 := hr.obw
    omega
  · exact hr.bel.trans (hS.toBelow (fun i hi _ => by rw [hi]; exact hr.obw) hr.bel.size)
theorem In1.below {w W W' : World} {ob b : Nat} {e1 : Lk.En} {d1 : PD} {v v1 : Value} {evs news : List EvH} {er : Int} {q : Nat} (h : In1 w W ob b e1 d1 v evs er v1 news q) (k : Below W.heap.size W W') : In1 w W' ob b e1 d1 v evs er v1 news q :=
  ⟨h.hr.below k, own_below h.row1 k, fun p hp => own_below (h.hds1 p hp) k, h.sep1, h.ne⟩
theorem below_dn {B : Nat} {w w1 : World} (h : Below B w w1) (n : Nat) : Below B w (w1.drewN n) := ⟨h.os, h.tape, h.output, h.size, h.block⟩
/-- All has been drained. -/
theorem Hr.drained {w W W' : World} {ob b : Nat} {e1 e2 : Lk.En} {d1 : PD} {v : Value} {evs : List EvH} {er : Int} (h : Hr w W ob b e1 d1 v evs er) (hP : PPost W b d1 e2 W') :
    Is W' ob 50 [v, .int .i64 er] ∧ W'.ownsRow w.heap.size 54 5 v evs.length (evsV evs) ∧ (∀ p ∈ evs, W'.ownsRow w.heap.size 44 2 p.2 p.1.hs.length (hdsV p.1.hs)) ∧ Below w.heap.size w W' := by
  obtain ⟨d2, _, _, hO⟩ := hP
  exact ⟨h.out.only hO h.nob, own_only h.row hO (fun i hi => h.sep i (.inl hi)), fun p hp => own_only (h.hds p hp) hO (fun i hi => h.sep i (.inr ⟨p, hp, hi⟩)), h.bel.trans (hO.toBelow (fun i hi _ => h.pos i hi) h.bel.size)⟩
theorem cells_news (w : World) (xs : List Value) (T : TypeId) : ∀ j u, xs[j]? = some u → (w.alloc (.cells xs.toArray T)).drew.cell? ((⟨w.heap.size, 0, none⟩ : Addr).add j) = some u := by
  intro j u hu
  have hplain : (⟨w.heap.size, 0, none⟩ : Addr).add j = ⟨w.heap.size, j, none⟩ := by unfold Addr.add; split <;> simp_all
  rw [hplain]
  have := (Is.new w T xs).cell j
  rw [← hu]
  exact this
end Go.Proofs.YtbkpdapagfjmmaaDoor
