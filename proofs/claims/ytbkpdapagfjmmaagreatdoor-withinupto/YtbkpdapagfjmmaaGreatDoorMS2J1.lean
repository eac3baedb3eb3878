import Derived.Test.YtbkpdapagfjmmaaGreatDoorMFOS1
import Derived.Test.YtbkpdapagfjmmaaGreatDoorMPHT4
import Derived.Test.YtbkpdapagfjmmaaGreatDoorMSpec17W1
/-
  Walks: lists of headers, of the statements.
-/
namespace Go.Proofs.YtbkpdapagfjmmaaGreatDoor
open Go.RowKit

set_option maxHeartbeats 1000000 in
set_option maxRecDepth 100000 in
theorem spoil_some (B g cap : Nat) (l : List Lk.Hd) (w : World) (hl : l.length ≤ 1000) (own : w.ownsRow B 112 2 (.slice (some ⟨g, 0, none⟩) l.length cap) l.length (hdsV l)) :
    Calls Tryz.prog 77 #[.slice (some ⟨g, 0, none⟩) l.length cap] w fun e w' => e = .returned (.tuple #[]) ∧ w.grownBy w' (some g) := by
  obtain ⟨cur, hBg, hg, hn, hcm, hcs, ht⟩ : ∃ cur : Array Value, B ≤ g ∧ w.heap[g]? = some (.cells cur 112 (0, 0)) ∧ l.length ≤ cap ∧ cap ≤ maxLen ∧ cur.size = cap * 2 ∧ cur.toList.take (l.length * 2) = hdsV l := by
    rcases own.2 with ⟨h, _⟩ | ⟨_, _, cur, h, h1, h2, h3, h4, h5, h6⟩
    · cases h
    · cases h; exact ⟨cur, h1, h2, h3, h4, h5, h6⟩
  have hI : Is w g 112 cur.toList := by unfold Is; simpa using hg
  have HI := hide hI
  clear own hg ht hI
  go_enter Tryz.func77, Tryz.ntmps77
  go_wp2_with fail
  go_loopw [2] (fun u wr => ∃ (k : Nat) (cs : List Value), u = .int .i64 k ∧ k ≤ l.length ∧ cs.length = cap * 2 ∧ Is wr g 112 cs ∧ w.grownBy wr (some g)) (fun u _ => l.length - (intOf u).toNat)
  case atStart => exact ⟨0, cur.toList, rfl, by omega, by simpa using hcs, unhide HI, World.grownBy.refl _ _⟩
  case round =>
    obtain ⟨k, cs, rfl, hk, hcl, hIr, hgr⟩ := hrel
    by_cases hlt : k < l.length
    · have hlt' : (k : Int) < l.length := by omega
      have c0 : wr.cell? ⟨g, k * 2, none⟩ = some (cs[k * 2]'(by omega)) := by rw [hIr.cell, List.getElem?_eq_getElem]
      have c1 : wr.cell? ⟨g, k * 2 + 1, none⟩ = some (cs[k * 2 + 1]'(by omega)) := by rw [hIr.cell, List.getElem?_eq_getElem]
      have f0 := hIr.free (k * 2)
      have f1 := hIr.free (k * 2 + 1)
      have HIr := hide hIr
      clear hIr
      go_wp2_with fail
      go_roundw
      case rel => exact ⟨k + 1, _, by simp, by omega, by simpa using hcl, ((unhide HIr).set (k * 2) _).set (k * 2 + 1) _, (Turns.set (Turns.set hgr _ _) _ _)⟩
      case measure => simp [intOf]; omega
    · have hlt' : ¬ (k : Int) < l.length := by omega
      go_wp2_with fail
      go_end0
      exact ⟨rfl, hgr⟩

set_option maxHeartbeats 1000000 in
set_option maxRecDepth 100000 in
theorem spoil_none (w : World) : Calls Tryz.prog 77 #[.slice none 0 0] w fun e w' => e = .returned (.tuple #[]) ∧ w' = w := by
  go_enter Tryz.func77, Tryz.ntmps77
  go_wp2_with fail
  refine wp_loop_rounds 1 ?_
  rw [rounds_succ]
  go_wp2_with fail
  go_end0
  exact ⟨rfl, rfl⟩

theorem spoil_any (B : Nat) (v : Value) (l : List Lk.Hd) (w : World) (hl : l.length ≤ 1000) (own : w.ownsRow B 112 2 v l.length (hdsV l)) :
    Calls Tryz.prog 77 #[v] w fun e w' => e = .returned (.tuple #[]) ∧ w.grownBy w' v.ownBlock := by
  rcases owned_hds own with ⟨rfl, rfl⟩ | ⟨g, cap, rfl, _⟩
  · refine (spoil_none w).mono ?_
    rintro e w' ⟨rfl, rfl⟩
    exact ⟨rfl, World.grownBy.refl _ _⟩
  · exact spoil_some B g cap l w hl own

set_option maxHeartbeats 2000000 in
set_option maxRecDepth 100000 in
theorem alike_some (Ba Bb ga gb ca cb : Nat) (l : List Lk.Hd) (w : World) (hl : l.length ≤ 1000) (owa : w.ownsRow Ba 112 2 (.slice (some ⟨ga, 0, none⟩) l.length ca) l.length (hdsV l)) (owb : w.ownsRow Bb 112 2 (.slice (some ⟨gb, 0, none⟩) l.length cb) l.length (hdsV l)) :
    Calls Tryz.prog 76 #[.slice (some ⟨ga, 0, none⟩) l.length ca, .slice (some ⟨gb, 0, none⟩) l.length cb] w fun e w' => e = .returned (.bool true) ∧ ∃ n, w' = w.drewN n := by
  have HA := hide owa
  have HB := hide owb
  clear owa owb
  go_enter Tryz.func76, Tryz.ntmps76
  go_wp2_with fail
  go_loopw [5] (fun u wr => ∃ k : Nat, u = .int .i64 k ∧ k ≤ l.length ∧ ∃ n, wr = w.drewN n) (fun u _ => l.length - (intOf u).toNat)
  case atStart => exact ⟨0, rfl, by omega, 0, rfl⟩
  case round =>
    obtain ⟨k, rfl, hk, nd, rfl⟩ := hrel
    by_cases hlt : k < l.length
    · have hlt' : (k : Int) < l.length := by omega
      obtain ⟨x, hx⟩ : ∃ x, l[k]? = some x := ⟨_, List.getElem?_eq_getElem hlt⟩
      obtain ⟨_, a0, a1⟩ := row_at2 (unhide HA) hx
      obtain ⟨_, b0, b1⟩ := row_at2 (unhide HB) hx
      clear hx
      go_wp2_with fail
      go_quiet (fail)
      go_wp2_with fail
      go_roundw
      case rel => exact ⟨k + 1, by simp, by omega, _, rfl⟩
      case measure => simp [intOf]; omega
    · have hlt' : ¬ (k : Int) < l.length := by omega
      go_wp2_with fail
      go_ret
      exact ⟨rfl, nd, rfl⟩

set_option maxHeartbeats 1000000 in
set_option maxRecDepth 100000 in
theorem alike_zero (a b : Option Addr) (ca cb : Nat) (w : World) : Calls Tryz.prog 76 #[.slice a 0 ca, .slice b 0 cb] w fun e w' => e = .returned (.bool true) ∧ ∃ n, w' = w.drewN n := by
  go_enter Tryz.func76, Tryz.ntmps76
  go_wp2_with fail
  refine wp_loop_rounds 1 ?_
  rw [rounds_succ]
  go_wp2_with fail
  go_ret
  exact ⟨rfl, 0, rfl⟩

theorem alike_any (Ba Bb : Nat) (va vb : Value) (l : List Lk.Hd) (w : World) (hl : l.length ≤ 1000) (owa : w.ownsRow Ba 112 2 va l.length (hdsV l)) (owb : w.ownsRow Bb 112 2 vb l.length (hdsV l)) :
    Calls Tryz.prog 76 #[va, vb] w fun e w' => e = .returned (.bool true) ∧ ∃ n, w' = w.drewN n := by
  rcases owned_hds owa with ⟨hl0, rfl⟩ | ⟨ga, ca, rfl, _⟩
  · rcases owned_hds owb with ⟨_, rfl⟩ | ⟨gb, cb, rfl, _⟩
    · exact alike_zero _ _ _ _ w
    · subst hl0
      exact alike_zero _ _ _ _ w
  · rcases owned_hds owb with ⟨hl0, rfl⟩ | ⟨gb, cb, rfl, _⟩
    · subst hl0
      exact alike_zero _ _ _ _ w
    · exact alike_some Ba Bb ga gb ca cb l w hl owa owb

end Go.Proofs.YtbkpdapagfjmmaaGreatDoor

/-
  Memory: two ends that belong together, as the statement has them.
-/
namespace Go.Proofs.YtbkpdapagfjmmaaGreatDoor
open Go.RowKit

def upd {α : Type} (f : Nat → α) (k : Nat) (x : α) : Nat → α := fun i => if i = k then x else f i
theorem upd_same {α : Type} (f : Nat → α) (k : Nat) (x : α) : upd f k x k = x := by simp [upd]
theorem upd_other {α : Type} (f : Nat → α) {k i : Nat} (x : α) (h : i ≠ k) : upd f k x i = f i := by simp [upd, h]

theorem pair_at {w : World} {g : Nat} {T : TypeId} {f : Nat → Nat} (h : ∃ tl, Is w g T (ptr (f 0) :: ptr (f 1) :: tl)) {k : Nat} (hk : k < 2) : w.cell? ⟨g, k, none⟩ = some (ptr (f k)) := by
  obtain ⟨tl, hI⟩ := h
  rw [hI.cell]
  match k, hk with
  | 0, _ => rfl
  | 1, _ => rfl
theorem pair_free {w : World} {g : Nat} {T : TypeId} {f : Nat → Nat} (h : ∃ tl, Is w g T (ptr (f 0) :: ptr (f 1) :: tl)) (k : Nat) : w.frozen? ⟨g, k, none⟩ = false := by
  obtain ⟨tl, hI⟩ := h
  exact hI.free k
theorem bs_cat (a b : Lk.Bs) : bs a ++ bs b = bs (a ++ b) := by
  apply ByteArray.ext
  simp [bs]
/-- A message of the statement's. -/
structure Ms where
  hv : Value
  hs : List Lk.Hd
  body : Lk.Bs
  bg : Bool
  en : Bool
  gn : Bool
  et : Nat
def msV (m : Ms) : List Value := [m.hv, .string (bs m.body), .bool m.bg, .bool m.en, .bool m.gn, .int .i64 (m.et : Int)]
def mssV (l : List Ms) : List Value := l.flatMap msV
theorem mssV_append (a b : List Ms) : mssV (a ++ b) = mssV a ++ mssV b := by simp [mssV]
theorem mssV_len (l : List Ms) : (mssV l).length = l.length * 6 := by
  induction l with
  | nil => rfl
  | cons f fs ih => simp only [mssV, List.flatMap_cons, List.length_append, msV, List.length_cons, List.length_nil] at ih ⊢; omega
theorem mssV_at (l : List Ms) : ∀ (i : Nat) (h : i < l.length), (mssV l)[i * 6]? = some l[i].hv ∧ (mssV l)[i * 6 + 1]? = some (.string (bs l[i].body)) ∧ (mssV l)[i * 6 + 2]? = some (.bool l[i].bg) ∧ (mssV l)[i * 6 + 3]? = some (.bool l[i].en) ∧ (mssV l)[i * 6 + 4]? = some (.bool l[i].gn) ∧ (mssV l)[i * 6 + 5]? = some (.int .i64 (l[i].et : Int)) := by
  induction l with
  | nil => intro i h; simp at h
  | cons f fs ih =>
    intro i h
    cases i with
    | zero => simp [mssV, msV]
    | succ i =>
      have := ih i (by simpa using h)
      simp only [mssV, List.flatMap_cons, List.getElem_cons_succ] at this ⊢
      have e : (i + 1) * 6 = i * 6 + 6 := by omega
      rw [e]
      simpa [msV] using this
theorem mssV_set (l : List Ms) : ∀ (i : Nat) (m : Ms) (j : Nat) (v : Value), i < l.length → (∀ x, l[i]? = some x → (msV x).set j v = msV m) → j < 6 → (mssV l).set (i * 6 + j) v = mssV (l.set i m) := by
  induction l with
  | nil => intro i m j v h; simp at h
  | cons f fs ih =>
    intro i m j v h hx hj
    cases i with
    | zero =>
      have := hx f rfl
      simp only [Nat.zero_mul, Nat.zero_add, List.set_cons_zero, mssV, List.flatMap_cons]
      rw [List.set_append_left _ _ (by simp [msV]; omega), this]
    | succ i =>
      have := ih i m j v (by simpa using h) (fun x hx' => hx x (by simpa using hx')) hj
      have e : (i + 1) * 6 + j = (msV f).length + (i * 6 + j) := by simp [msV]; omega
      simp only [List.set_cons_succ, mssV, List.flatMap_cons] at this ⊢
      rw [e, List.set_append_right _ _ (by omega), Nat.add_sub_cancel_left, this]

/-- A cell of a row of one's own is written. -/
theorem own_write {w : World} {B g cap n size j : Nat} {e : TypeId} {xs : List Value} (h : w.ownsRow B e size (.slice (some ⟨g, 0, none⟩) n cap) n xs) (v : Value) : (w.setCell ⟨g, j, none⟩ v).ownsRow B e size (.slice (some ⟨g, 0, none⟩) n cap) n (xs.set j v) := by
  rcases h.2 with ⟨h0, _⟩ | ⟨g', cap', cur, h0, h1, h2, h3, h4, h5, h6⟩
  · cases h0
  · cases h0
    have hI : Is w g e cur.toList := by unfold Is; simpa using h2
    have hI' := hI.set j v
    unfold Is at hI'
    refine ⟨by rw [List.length_set]; exact h.1, .inr ⟨g, cap, (cur.toList.set j v).toArray, rfl, h1, hI', h3, h4, by simpa using h5, ?_⟩⟩
    rw [← h6, List.take_set]
/-- What a list of messages is, for the walk. -/
theorem owned_mss {w : World} {B : Nat} {v : Value} {l : List Ms} (h : w.ownsRow B 44 6 v l.length (mssV l)) {i : Nat} (hi : i < l.length) :
    ∃ g cap, v = .slice (some ⟨g, 0, none⟩) l.length cap ∧ B ≤ g ∧ g < w.heap.size ∧ l.length ≤ cap ∧ w.cell? ⟨g, i * 6, none⟩ = some l[i].hv ∧ w.cell? ⟨g, i * 6 + 1, none⟩ = some (.string (bs l[i].body)) ∧ w.cell? ⟨g, i * 6 + 2, none⟩ = some (.bool l[i].bg) ∧ w.cell? ⟨g, i * 6 + 3, none⟩ = some (.bool l[i].en) ∧ w.cell? ⟨g, i * 6 + 4, none⟩ = some (.bool l[i].gn) ∧ w.cell? ⟨g, i * 6 + 5, none⟩ = some (.int .i64 (l[i].et : Int)) ∧ ∀ j, w.frozen? ⟨g, j, none⟩ = false := by
  rcases h.2 with ⟨_, h0⟩ | ⟨g, cap, cur, rfl, hB, hg, hn, hc, hs, ht⟩
  · omega
  · have hI : Is w g 44 cur.toList := by unfold Is; simpa using hg
    have e := mssV_at l i hi
    have hc : ∀ j, j < l.length * 6 → w.cell? ⟨g, j, none⟩ = (mssV l)[j]? := by
      intro j hj
      rw [hI.cell j, ← ht, List.getElem?_take_of_lt hj]
    exact ⟨g, cap, rfl, hB, hI.lt, hn, (hc _ (by omega)).trans e.1, (hc _ (by omega)).trans e.2.1, (hc _ (by omega)).trans e.2.2.1, (hc _ (by omega)).trans e.2.2.2.1, (hc _ (by omega)).trans e.2.2.2.2.1, (hc _ (by omega)).trans e.2.2.2.2.2, fun j => hI.free j⟩
theorem own_any {w : World} {B n size : Nat} {e : TypeId} {v : Value} {xs : List Value} (h : w.ownsRow B e size v n xs) : ∃ a cap, v = .slice a n cap := by
  rcases h.2 with ⟨h0, rfl⟩ | ⟨g, cap, cur, h0, _⟩
  · exact ⟨_, _, h0⟩
  · exact ⟨_, _, h0⟩

/-- The statement's own blocks. -/
def jf (P g : Nat) (sd : Nat → Nat) (mv : Nat → Value) (ml : Nat → List Ms) (i : Nat) : Prop :=
  i = P ∨ i = g ∨ (∃ k, k < 2 ∧ i = sd k) ∨ (∃ q, q < 4 ∧ (mv q).ownBlock = some i) ∨ (∃ q, q < 4 ∧ ∃ m ∈ ml q, m.hv.ownBlock = some i)
/-- Two ends that belong together: of side k the lists k (sent) and k + 2 (got), and its pipe. -/
structure JP (w0 : World) (P g cap : Nat) (sd eb : Nat → Nat) (e : Nat → Lk.En) (d : Nat → PD) (mv : Nat → Value) (ml : Nat → List Ms) (pipe : Nat → Lk.Bs) (w : World) : Prop where
  pr : Is w P 41 [.slice (some ⟨g, 0, none⟩) 2 cap]
  row : ∃ t, Is w g 38 (ptr (sd 0) :: ptr (sd 1) :: t)
  side : ∀ k, k < 2 → Is w (sd k) 37 [ptr (eb k), mv k, mv (k + 2), .string (bs (pipe k)), .int .i64 0]
  ms : ∀ q, q < 4 → w.ownsRow w0.heap.size 44 6 (mv q) (ml q).length (mssV (ml q))
  hds : ∀ q, q < 4 → ∀ m ∈ ml q, w.ownsRow w0.heap.size 112 2 m.hv m.hs.length (hdsV m.hs)
  nes : sd 0 ≠ sd 1
  nem : ∀ q r, q < 4 → r < 4 → q ≠ r → (mv q).ownBlock = none ∨ (mv q).ownBlock ≠ (mv r).ownBlock
  pe : ∀ k, k < 2 → PEnd w (eb k) (e k) (d k)
  sepE : ∀ k j, k < 2 → j < 2 → k ≠ j → ∀ i, foot (eb k) (d k) i → ¬ foot (eb j) (d j) i
  sepJ : ∀ k, k < 2 → ∀ i, foot (eb k) (d k) i → ¬ jf P g sd mv ml i
  loE : ∀ k, k < 2 → ∀ i, foot (eb k) (d k) i → w0.heap.size ≤ i
  loP : w0.heap.size ≤ P ∧ w0.heap.size ≤ g ∧ ∀ k, k < 2 → w0.heap.size ≤ sd k
  fx : Fx w
  h0 : 0 < w0.heap.size
  cap2 : 2 ≤ cap
  bel : Below w0.heap.size w0 w

section
variable {w0 w w' : World} {P g cap : Nat} {sd eb : Nat → Nat} {e : Nat → Lk.En} {d : Nat → PD} {mv : Nat → Value} {ml : Nat → List Ms} {pipe : Nat → Lk.Bs}

theorem JP.jlo (h : JP w0 P g cap sd eb e d mv ml pipe w) {i : Nat} (hi : jf P g sd mv ml i) : w0.heap.size ≤ i ∧ i < w.heap.size := by
  rcases hi with rfl | rfl | ⟨k, hk, rfl⟩ | ⟨q, hq, hi⟩ | ⟨q, hq, m, hm, hi⟩
  · exact ⟨h.loP.1, h.pr.lt⟩
  · obtain ⟨t, ht⟩ := h.row
    exact ⟨h.loP.2.1, ht.lt⟩
  · exact ⟨h.loP.2.2 k hk, (h.side k hk).lt⟩
  · exact (h.ms q hq).lt i hi
  · exact (h.hds q hq m hm).lt i hi
/-- Blocks that are none of theirs turn. -/
theorem JP.only {S : Nat → Prop} (h : JP w0 P g cap sd eb e d mv ml pipe w) (k : Only S w w') (hj : ∀ i, jf P g sd mv ml i → ¬ S i) (he : ∀ j, j < 2 → ∀ i, foot (eb j) (d j) i → ¬ S i) (hlo : ∀ i, S i → i < w.heap.size → w0.heap.size ≤ i) : JP w0 P g cap sd eb e d mv ml pipe w' := by
  obtain ⟨t, ht⟩ := h.row
  refine ⟨h.pr.only k (hj P (.inl rfl)), ⟨t, ht.only k (hj g (.inr (.inl rfl)))⟩, fun j hk => (h.side j hk).only k (hj _ (.inr (.inr (.inl ⟨j, hk, rfl⟩)))), fun q hq => own_only (h.ms q hq) k (fun i hi => hj i (.inr (.inr (.inr (.inl ⟨q, hq, hi⟩))))), fun q hq m hm => own_only (h.hds q hq m hm) k (fun i hi => hj i (.inr (.inr (.inr (.inr ⟨q, hq, m, hm, hi⟩))))), h.nes, h.nem, fun j hk => (h.pe j hk).only k (he j hk), h.sepE, h.sepJ, h.loE, h.loP, h.fx.only k ?_, h.h0, h.cap2, ?_⟩
  · intro hs
    have h1 := h.h0
    have h2 := hlo 0 hs (by have := h.bel.size; omega)
    omega
  · exact h.bel.trans (k.toBelow hlo h.bel.size)
theorem JP.below (h : JP w0 P g cap sd eb e d mv ml pipe w) (k : Below w.heap.size w w') : JP w0 P g cap sd eb e d mv ml pipe w' :=
  h.only (Only.of_below k (fun _ => False)) (fun _ _ h => h) (fun _ _ _ _ h => h) (fun _ h => h.elim)
/-- An end has done something. -/
theorem JP.call (h : JP w0 P g cap sd eb e d mv ml pipe w) {k : Nat} (hk : k < 2) {e' : Lk.En} {d' : PD} (h1 : PEnd w' (eb k) e' d') (h2 : ∀ i, foot (eb k) d' i → foot (eb k) (d k) i ∨ w.heap.size ≤ i) (h3 : Only (foot (eb k) (d k)) w w') : JP w0 P g cap sd eb (upd e k e') (upd d k d') mv ml pipe w' := by
  obtain ⟨t, ht⟩ := h.row
  have hj : ∀ i, jf P g sd mv ml i → ¬ foot (eb k) (d k) i := fun i hi hf => h.sepJ k hk i hf hi
  refine ⟨h.pr.only h3 (hj P (.inl rfl)), ⟨t, ht.only h3 (hj g (.inr (.inl rfl)))⟩, fun j hk => (h.side j hk).only h3 (hj _ (.inr (.inr (.inl ⟨j, hk, rfl⟩)))), fun q hq => own_only (h.ms q hq) h3 (fun i hi => hj i (.inr (.inr (.inr (.inl ⟨q, hq, hi⟩))))), fun q hq m hm => own_only (h.hds q hq m hm) h3 (fun i hi => hj i (.inr (.inr (.inr (.inr ⟨q, hq, m, hm, hi⟩))))), h.nes, h.nem, fun j hj2 => ?_, fun i j hi hj2 hij x hx hy => ?_, fun j hj2 i hi hx => ?_, fun j hj2 i hi => ?_, h.loP, h.fx.only h3 ?_, h.h0, h.cap2, ?_⟩
  · by_cases hjk : j = k
    · subst hjk
      simp only [upd_same]
      exact h1
    · simp only [upd_other _ _ hjk]
      exact (h.pe j hj2).only h3 (h.sepE j k hj2 hk hjk)
  · by_cases hik : i = k
    · subst hik
      rw [upd_same] at hx
      rw [upd_other _ _ (fun e => hij e.symm)] at hy
      rcases h2 x hx with hx | hx
      · exact h.sepE i j hi hj2 hij x hx hy
      · have := (h.pe j hj2).lt x hy
        omega
    · rw [upd_other _ _ hik] at hx
      by_cases hjk : j = k
      · subst hjk
        rw [upd_same] at hy
        rcases h2 x hy with hy | hy
        · exact h.sepE i j hi hj2 hij x hx hy
        · have := (h.pe i hi).lt x hx
          omega
      · rw [upd_other _ _ hjk] at hy
        exact h.sepE i j hi hj2 hij x hx hy
  · by_cases hjk : j = k
    · subst hjk
      rw [upd_same] at hi
      rcases h2 i hi with hi | hi
      · exact h.sepJ j hj2 i hi hx
      · have := (h.jlo hx).2
        omega
    · rw [upd_other _ _ hjk] at hi
      exact h.sepJ j hj2 i hi hx
  · by_cases hjk : j = k
    · subst hjk
      rw [upd_same] at hi
      rcases h2 i hi with hi | hi
      · exact h.loE j hj2 i hi
      · have := h.bel.size
        omega
    · rw [upd_other _ _ hjk] at hi
      exact h.loE j hj2 i hi
  · intro hs
    have h1 := h.h0
    have h2 := h.loE k hk 0 hs
    omega
  · exact h.bel.trans (h3.toBelow (fun i hi _ => h.loE k hk i hi) h.bel.size)
/-- A side's block is written. -/
theorem JP.onSide (h : JP w0 P g cap sd eb e d mv ml pipe w) {k : Nat} (hk : k < 2) {S : Nat → Prop} (hO : Only S w w') (hS : ∀ i, S i → i = sd k) {pipe' : Nat → Lk.Bs}
    (hs : Is w' (sd k) 37 [ptr (eb k), mv k, mv (k + 2), .string (bs (pipe' k)), .int .i64 0]) (hp : ∀ j, j ≠ k → pipe' j = pipe j) : JP w0 P g cap sd eb e d mv ml pipe' w' := by
  obtain ⟨t, ht⟩ := h.row
  have hk' := h.side k hk
  have key : ∀ (i : Nat) (T : TypeId) (cs : List Value), Is w i T cs → T ≠ 37 → ¬ S i := fun i T cs hI hT hs => hI.ne hk' hT (hS i hs)
  have keyr : ∀ (i : Nat) {B n size : Nat} {T : TypeId} {v : Value} {xs : List Value}, w.ownsRow B T size v n xs → 37 ≠ T → v.ownBlock = some i → ¬ S i := fun i B n size T v xs ho hT hi hs => by
    have e := hS i hs
    subst e
    exact own_ne ho hk' hT hi.symm
  have hsf : ∀ j, j < 2 → ∀ i, foot (eb j) (d j) i → ¬ S i := fun j hj2 i hi hs => h.sepJ j hj2 i hi (.inr (.inr (.inl ⟨k, hk, hS i hs⟩)))
  refine ⟨h.pr.only hO (key _ _ _ h.pr (Nat.ne_of_beq_eq_false rfl)), ⟨t, ht.only hO (key _ _ _ ht (Nat.ne_of_beq_eq_false rfl))⟩, fun j hj2 => ?_, fun q hq => own_only (h.ms q hq) hO (fun i hi => keyr i (h.ms q hq) (Nat.ne_of_beq_eq_false rfl) hi), fun q hq m hm => own_only (h.hds q hq m hm) hO (fun i hi => keyr i (h.hds q hq m hm) (Nat.ne_of_beq_eq_false rfl) hi), h.nes, h.nem, fun j hj2 => (h.pe j hj2).only hO (hsf j hj2), h.sepE, h.sepJ, h.loE, h.loP, h.fx.only hO ?_, h.h0, h.cap2, ?_⟩
  · by_cases hjk : j = k
    · subst hjk
      exact hs
    · rw [hp j hjk]
      refine (h.side j hj2).only hO (fun hs => ?_)
      have e := hS _ hs
      have hne := h.nes
      have : (j = 0 ∧ k = 1) ∨ (j = 1 ∧ k = 0) := by omega
      rcases this with ⟨rfl, rfl⟩ | ⟨rfl, rfl⟩
      · exact hne e
      · exact hne e.symm
  · intro hs
    have h1 := h.h0
    have h2 := h.loP.2.2 k hk
    have := hS 0 hs
    omega
  · exact h.bel.trans (hO.toBelow (fun i hi _ => by rw [hS i hi]; exact h.loP.2.2 k hk) h.bel.size)
theorem JP.setPipe (h : JP w0 P g cap sd eb e d mv ml pipe w) {k : Nat} (hk : k < 2) (p : Lk.Bs) : JP w0 P g cap sd eb e d mv ml (upd pipe k p) (w.setCell ⟨sd k, 3, none⟩ (.string (bs p))) := by
  refine h.onSide hk ((Only.refl (· = sd k) w).set (sd k) 3 _ (fun _ => rfl)) (fun i hi => hi) ?_ (fun j hj => upd_other _ _ hj)
  rw [upd_same]
  exact (h.side k hk).set 3 _
/-- A message is written to. -/
theorem JP.setMs (h : JP w0 P g cap sd eb e d mv ml pipe w) {q : Nat} (hq : q < 4) {gq cq i j : Nat} {m : Ms} {v : Value} (hv : mv q = .slice (some ⟨gq, 0, none⟩) (ml q).length cq) (hi : i < (ml q).length) (hj : j < 6) (hm : ∀ x, (ml q)[i]? = some x → (msV x).set j v = msV m ∧ m.hv = x.hv ∧ m.hs = x.hs) : JP w0 P g cap sd eb e d mv (upd ml q ((ml q).set i m)) pipe (w.setCell ⟨gq, i * 6 + j, none⟩ v) := by
  obtain ⟨t, ht⟩ := h.row
  have hO : Only (· = gq) w (w.setCell ⟨gq, i * 6 + j, none⟩ v) := (Only.refl (· = gq) w).set gq _ _ (fun _ => rfl)
  have hown := h.ms q hq
  rw [hv] at hown
  have key : ∀ (x : Nat) (T : TypeId) (cs : List Value), Is w x T cs → T ≠ 44 → ¬ x = gq := fun x T cs hI hT e => by
    subst e
    exact own_ne hown hI hT rfl
  have hjq : jf P g sd mv ml gq := .inr (.inr (.inr (.inl ⟨q, hq, by rw [hv]; rfl⟩)))
  have hx : (ml q)[i]? = some (ml q)[i] := List.getElem?_eq_getElem hi
  have hmx := hm _ hx
  have hjf : ∀ y, jf P g sd mv (upd ml q ((ml q).set i m)) y → jf P g sd mv ml y := fun y hy => by
    rcases hy with hy | hy | hy | hy | ⟨r, hr, m', hm', hy⟩
    · exact .inl hy
    · exact .inr (.inl hy)
    · exact .inr (.inr (.inl hy))
    · exact .inr (.inr (.inr (.inl hy)))
    · refine .inr (.inr (.inr (.inr ?_)))
      by_cases hrq : r = q
      · subst hrq
        rw [upd_same] at hm'
        rcases List.mem_or_eq_of_mem_set hm' with hm' | rfl
        · exact ⟨r, hr, m', hm', hy⟩
        · exact ⟨r, hr, _, List.getElem_mem hi, by rw [← hmx.2.1]; exact hy⟩
      · rw [upd_other _ _ hrq] at hm'
        exact ⟨r, hr, m', hm', hy⟩
  have hhd : ∀ r, r < 4 → ∀ m' ∈ ml r, (w.setCell ⟨gq, i * 6 + j, none⟩ v).ownsRow w0.heap.size 112 2 m'.hv m'.hs.length (hdsV m'.hs) := fun r hr m' hm' => own_only (h.hds r hr m' hm') hO (fun y hy e => by
    rcases own_own_ne (h.hds r hr m' hm') hown (Nat.ne_of_beq_eq_false rfl) with h' | h'
    · rw [h'] at hy; cases hy
    · subst e
      exact h' hy)
  refine ⟨h.pr.only hO (key _ _ _ h.pr (Nat.ne_of_beq_eq_false rfl)), ⟨t, ht.only hO (key _ _ _ ht (Nat.ne_of_beq_eq_false rfl))⟩, fun k hk => (h.side k hk).only hO (key _ _ _ (h.side k hk) (Nat.ne_of_beq_eq_false rfl)), fun r hr => ?_, fun r hr m' hm' => ?_, h.nes, h.nem, fun k hk => (h.pe k hk).only hO (fun y hy e => h.sepJ k hk y hy (e ▸ hjq)), h.sepE, fun k hk y hy hz => h.sepJ k hk y hy (hjf y hz), h.loE, h.loP, h.fx.only hO ?_, h.h0, h.cap2, ?_⟩
  · by_cases hrq : r = q
    · subst hrq
      rw [upd_same, List.length_set, hv, ← mssV_set (ml r) i m j v hi (fun x hx => (hm x hx).1) hj]
      exact own_write hown v
    · rw [upd_other _ _ hrq]
      refine own_only (h.ms r hr) hO (fun y hy e => ?_)
      subst e
      rcases h.nem r q hr hq hrq with h' | h'
      · rw [h'] at hy; cases hy
      · rw [hv] at h'
        exact h' hy
  · by_cases hrq : r = q
    · subst hrq
      rw [upd_same] at hm'
      rcases List.mem_or_eq_of_mem_set hm' with hm' | rfl
      · exact hhd r hr m' hm'
      · rw [hmx.2.1, hmx.2.2]
        exact hhd r hr _ (List.getElem_mem hi)
    · rw [upd_other _ _ hrq] at hm'
      exact hhd r hr m' hm'
  · intro e
    have h1 := h.h0
    have h2 := (h.jlo hjq).1
    omega
  · exact h.bel.trans (hO.toBelow (fun y hy _ => by rw [hy]; exact (h.jlo hjq).1) h.bel.size)
/-- A message is put behind the others. -/
theorem JP.push (h : JP w0 P g cap sd eb e d mv ml pipe w) {q k c : Nat} (hk : k < 2) (hqc : (q = k ∧ c = 1) ∨ (q = k + 2 ∧ c = 2)) {m : Ms} {v' : Value} {w3 : World}
    (hown : w3.ownsRow w0.heap.size 44 6 v' ((ml q).length + 1) (mssV (ml q) ++ msV m)) (hO : Only (fun i => (mv q).ownBlock = some i) w w3) (hor : ∀ i, v'.ownBlock = some i → (mv q).ownBlock = some i ∨ w.heap.size ≤ i)
    (hhv : w3.ownsRow w0.heap.size 112 2 m.hv m.hs.length (hdsV m.hs)) (hhs : ∀ j, j < 2 → ∀ i, m.hv.ownBlock = some i → ¬ foot (eb j) (d j) i) :
    JP w0 P g cap sd eb e d (upd mv q v') (upd ml q (ml q ++ [m])) pipe (w3.setCell ⟨sd k, c, none⟩ v') := by
  obtain ⟨t, ht⟩ := h.row
  have hq : q < 4 := by omega
  have hmq := h.ms q hq
  have hne : sd 0 ≠ sd 1 := h.nes
  have hsdk : ∀ j, j < 2 → j ≠ k → sd j ≠ sd k := fun j hj hjk e => by
    have : (j = 0 ∧ k = 1) ∨ (j = 1 ∧ k = 0) := by omega
    rcases this with ⟨rfl, rfl⟩ | ⟨rfl, rfl⟩
    · exact hne e
    · exact hne e.symm
  have hside3 : ∀ j, j < 2 → Is w3 (sd j) 37 [ptr (eb j), mv j, mv (j + 2), .string (bs (pipe j)), .int .i64 0] := fun j hj => (h.side j hj).only hO (fun e => own_ne hmq (h.side j hj) (Nat.ne_of_beq_eq_false rfl) e.symm)
  have hS : Only (· = sd k) w3 (w3.setCell ⟨sd k, c, none⟩ v') := (Only.refl (· = sd k) w3).set (sd k) c _ (fun _ => rfl)
  have hall : Only (fun i => (mv q).ownBlock = some i ∨ i = sd k) w (w3.setCell ⟨sd k, c, none⟩ v') := (hO.mono (fun _ h => .inl h)).trans hS (fun i hi _ => .inr hi)
  have key : ∀ (i : Nat) (T : TypeId) (cs : List Value), Is w i T cs → T ≠ 37 → T ≠ 44 → ¬ ((mv q).ownBlock = some i ∨ i = sd k) := fun i T cs hI h1 h2 hx => by
    rcases hx with hx | hx
    · exact own_ne hmq hI h2 hx.symm
    · exact hI.ne (h.side k hk) h1 hx
  have keyr : ∀ (i : Nat) {B n size : Nat} {T : TypeId} {v : Value} {xs : List Value}, w.ownsRow B T size v n xs → 37 ≠ T → T ≠ 44 → v.ownBlock = some i → ¬ ((mv q).ownBlock = some i ∨ i = sd k) := fun i B n size T v xs ho h1 h2 hi hx => by
    rcases hx with hx | rfl
    · rcases own_own_ne ho hmq h2 with h' | h'
      · rw [h'] at hi; cases hi
      · exact h' (hi.trans hx.symm)
    · exact own_ne ho (h.side k hk) h1 hi.symm
  have hjq : ∀ i, (mv q).ownBlock = some i → jf P g sd mv ml i := fun i hi => .inr (.inr (.inr (.inl ⟨q, hq, hi⟩)))
  have hjs : jf P g sd mv ml (sd k) := .inr (.inr (.inl ⟨k, hk, rfl⟩))
  have hsep : ∀ j, j < 2 → ∀ i, foot (eb j) (d j) i → ¬ ((mv q).ownBlock = some i ∨ i = sd k) := fun j hj i hi hx => by
    rcases hx with hx | rfl
    · exact h.sepJ j hj i hi (hjq i hx)
    · exact h.sepJ j hj _ hi hjs
  have hlt : ∀ j, j < 2 → ∀ i, foot (eb j) (d j) i → i < w.heap.size := fun j hj => (h.pe j hj).lt
  have hown' : (w3.setCell ⟨sd k, c, none⟩ v').ownsRow w0.heap.size 44 6 v' ((ml q).length + 1) (mssV (ml q) ++ msV m) := own_only hown hS (fun i hi e => own_ne hown (hside3 k hk) (Nat.ne_of_beq_eq_false rfl) (by rw [← e]; exact hi.symm))
  refine ⟨h.pr.only hall (key _ _ _ h.pr (Nat.ne_of_beq_eq_false rfl) (Nat.ne_of_beq_eq_false rfl)), ⟨t, ht.only hall (key _ _ _ ht (Nat.ne_of_beq_eq_false rfl) (Nat.ne_of_beq_eq_false rfl))⟩, fun j hj => ?_, fun r hr => ?_, fun r hr m' hm' => ?_, h.nes, fun r s hr hs hrs => ?_, fun j hj => (h.pe j hj).only hall (hsep j hj), h.sepE, fun j hj i hi hx => ?_, h.loE, h.loP, h.fx.only hall ?_, h.h0, h.cap2, ?_⟩
  · by_cases hjk : j = k
    · subst hjk
      have := (hside3 j hj).set c v'
      rcases hqc with ⟨rfl, rfl⟩ | ⟨rfl, rfl⟩
      · rw [upd_same, upd_other _ _ (by omega)]
        exact this
      · rw [upd_same, upd_other _ _ (by omega)]
        exact this
    · have h1 : j ≠ q := by omega
      have h2 : j + 2 ≠ q := by omega
      rw [upd_other _ _ h1, upd_other _ _ h2]
      exact (hside3 j hj).only hS (hsdk j hj hjk)
  · by_cases hrq : r = q
    · subst hrq
      rw [upd_same, upd_same, mssV_append]
      simpa [mssV] using hown'
    · rw [upd_other _ _ hrq, upd_other _ _ hrq]
      refine own_only (h.ms r hr) hall (fun i hi hx => ?_)
      rcases hx with hx | rfl
      · rcases h.nem r q hr hq hrq with h' | h'
        · rw [h'] at hi; cases hi
        · exact h' (hi.trans hx.symm)
      · exact own_ne (h.ms r hr) (h.side k hk) (Nat.ne_of_beq_eq_false rfl) hi.symm
  · have hold : ∀ m' ∈ ml r, (w3.setCell ⟨sd k, c, none⟩ v').ownsRow w0.heap.size 112 2 m'.hv m'.hs.length (hdsV m'.hs) := fun m' hm' => own_only (h.hds r hr m' hm') hall (fun i hi => keyr i (h.hds r hr m' hm') (Nat.ne_of_beq_eq_false rfl) (Nat.ne_of_beq_eq_false rfl) hi)
    by_cases hrq : r = q
    · subst hrq
      rw [upd_same] at hm'
      rcases List.mem_append.1 hm' with hm' | hm'
      · exact hold m' hm'
      · simp at hm'
        subst hm'
        exact own_only hhv hS (fun i hi e => own_ne hhv (hside3 k hk) (Nat.ne_of_beq_eq_false rfl) (by rw [← e]; exact hi.symm))
    · rw [upd_other _ _ hrq] at hm'
      exact hold m' hm'
  · have hnew : ∀ r, r < 4 → r ≠ q → v'.ownBlock ≠ (mv r).ownBlock ∨ v'.ownBlock = none := fun r hr hrq => by
      cases hv : v'.ownBlock with
      | none => exact .inr rfl
      | some i =>
        refine .inl (fun e => ?_)
        rcases hor i hv with h' | h'
        · rcases h.nem q r hq hr (fun e => hrq e.symm) with h'' | h''
          · rw [h''] at h'; cases h'
          · exact h'' (h'.trans e)
        · have := ((h.ms r hr).lt i e.symm).2
          omega
    by_cases hrq : r = q
    · subst hrq
      rw [upd_same, upd_other _ _ (fun e => hrs e.symm)]
      rcases hnew s hs (fun e => hrs e.symm) with h' | h'
      · exact .inr h'
      · exact .inl h'
    · rw [upd_other _ _ hrq]
      by_cases hsq : s = q
      · subst hsq
        rw [upd_same]
        rcases hnew r hr hrq with h' | h'
        · exact .inr (fun e => h' e.symm)
        · rw [h']
          cases (mv r).ownBlock with
          | none => exact .inl rfl
          | some i => exact .inr (by simp)
      · rw [upd_other _ _ hsq]
        exact h.nem r s hr hs hrs
  · rcases hx with hx | hx | hx | ⟨r, hr, hx⟩ | ⟨r, hr, m', hm', hx⟩
    · exact h.sepJ j hj i hi (.inl hx)
    · exact h.sepJ j hj i hi (.inr (.inl hx))
    · exact h.sepJ j hj i hi (.inr (.inr (.inl hx)))
    · by_cases hrq : r = q
      · subst hrq
        rw [upd_same] at hx
        rcases hor i hx with h' | h'
        · exact h.sepJ j hj i hi (hjq i h')
        · have := hlt j hj i hi
          omega
      · rw [upd_other _ _ hrq] at hx
        exact h.sepJ j hj i hi (.inr (.inr (.inr (.inl ⟨r, hr, hx⟩))))
    · by_cases hrq : r = q
      · subst hrq
        rw [upd_same] at hm'
        rcases List.mem_append.1 hm' with hm' | hm'
        · exact h.sepJ j hj i hi (.inr (.inr (.inr (.inr ⟨r, hr, m', hm', hx⟩))))
        · simp at hm'
          subst hm'
          exact hhs j hj i hx hi
      · rw [upd_other _ _ hrq] at hm'
        exact h.sepJ j hj i hi (.inr (.inr (.inr (.inr ⟨r, hr, m', hm', hx⟩))))
  · intro hx
    have h1 := h.h0
    rcases hx with hx | hx
    · have := (h.jlo (hjq 0 hx)).1
      omega
    · have := (h.jlo hjs).1
      omega
  · refine h.bel.trans (hall.toBelow (fun i hi _ => ?_) h.bel.size)
    rcases hi with hi | rfl
    · exact (h.jlo (hjq i hi)).1
    · exact (h.jlo hjs).1
end
end Go.Proofs.YtbkpdapagfjmmaaGreatDoor
