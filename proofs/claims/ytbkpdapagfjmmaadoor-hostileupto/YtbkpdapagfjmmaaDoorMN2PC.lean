import Derived.Test.YtbkpdapagfjmmaaDoorMN1Spec4
import Derived.Test.YtbkpdapagfjmmaaDoorMT1M1
import Derived.Test.YtbkpdapagfjmmaaDoorSpec7
import Derived.BigQuiet
/-
  Memory: the chain of frames that wait.
-/
namespace Go.Proofs.YtbkpdapagfjmmaaDoor
open Go.RowKit

def wtV (f : Lk.Fr) (nx : Value) : List Value := [.int .i64 (f.k : Int), .int .i64 (f.st : Int), .string (bs f.d), nx]
/-- A chain: its frames, its blocks. -/
def Links (w : World) : Value → List Lk.Fr → List Nat → Prop
  | v, [], [] => v = .pointer none
  | v, f :: fs, r :: rs => v = ptr r ∧ ∃ nx, Is w r 141 (wtV f nx) ∧ Links w nx fs rs
  | _, _, _ => False
def lastV (rs : List Nat) : Value := optPtr rs.getLast?
def firstV (rs : List Nat) : Value := optPtr rs.head?
structure Chain (w : World) (first last : Value) (fs : List Lk.Fr) (rs : List Nat) : Prop where
  links : Links w first fs rs
  last : last = lastV rs
  nodup : rs.Nodup

theorem Links.len : ∀ {w : World} {v : Value} {fs : List Lk.Fr} {rs : List Nat}, Links w v fs rs → fs.length = rs.length ∧ v = firstV rs
  | w, v, [], [], h => ⟨rfl, h⟩
  | w, v, f :: fs, r :: rs, h => by
    obtain ⟨rfl, nx, _, h⟩ := h
    have := (Links.len h).1
    exact ⟨by simp [this], rfl⟩
  | _, _, [], _ :: _, h => h.elim
  | _, _, _ :: _, [], h => h.elim
theorem Links.is : ∀ {w : World} {v : Value} {fs : List Lk.Fr} {rs : List Nat}, Links w v fs rs → ∀ r ∈ rs, ∃ f nx, Is w r 141 (wtV f nx)
  | w, v, [], [], h => by simp
  | w, v, f :: fs, r :: rs, h => by
    obtain ⟨rfl, nx, hI, h⟩ := h
    intro x hx
    rcases List.mem_cons.1 hx with rfl | hx
    · exact ⟨f, nx, hI⟩
    · exact Links.is h x hx
  | _, _, [], _ :: _, h => h.elim
  | _, _, _ :: _, [], h => h.elim
theorem Links.only {S : Nat → Prop} {w' : World} : ∀ {w : World} {v : Value} {fs : List Lk.Fr} {rs : List Nat}, Links w v fs rs → Only S w w' → (∀ r ∈ rs, ¬ S r) → Links w' v fs rs
  | w, v, [], [], h, _, _ => h
  | w, v, f :: fs, r :: rs, h, k, hn => by
    obtain ⟨rfl, nx, hI, h⟩ := h
    exact ⟨rfl, nx, hI.only k (hn r (by simp)), Links.only h k (fun x hx => hn x (by simp [hx]))⟩
  | _, _, [], _ :: _, h, _, _ => h.elim
  | _, _, _ :: _, [], h, _, _ => h.elim
/-- A new one behind the last. -/
theorem Links.snoc {n : Nat} {g : Lk.Fr} : ∀ {w : World} {v : Value} {fs : List Lk.Fr} {rs : List Nat} {r : Nat}, Links w v fs rs → rs.getLast? = some r → rs.Nodup → n ∉ rs → Is w n 141 (wtV g (.pointer none)) →
    Links (w.setCell ⟨r, 3, none⟩ (ptr n)) v (fs ++ [g]) (rs ++ [n])
  | w, v, [], [], r, h, hl, _, _, _ => by simp at hl
  | w, v, f :: fs, [r'], r, h, hl, hd, hn, hI => by
    obtain ⟨rfl, nx, hI0, h⟩ := h
    simp at hl
    subst hl
    cases fs with
    | cons a b => exact h.elim
    | nil =>
      simp at hn
      exact ⟨rfl, ptr n, hI0.set 3 (ptr n), rfl, .pointer none, hI.other _ _ hn, rfl⟩
  | w, v, f :: fs, r' :: r2 :: rs, r, h, hl, hd, hn, hI => by
    obtain ⟨rfl, nx, hI0, h⟩ := h
    have hl2 : (r2 :: rs).getLast? = some r := by simpa using hl
    have hmem : r ∈ r2 :: rs := List.mem_of_getLast? hl2
    have hne : r' ≠ r := by
      rintro rfl
      exact (List.nodup_cons.1 hd).1 hmem
    exact ⟨rfl, nx, hI0.other _ _ hne, Links.snoc h hl2 (List.nodup_cons.1 hd).2 (fun hx => hn (by simp [hx])) hI⟩
  | _, _, [], _ :: _, _, h, _, _, _, _ => h.elim
  | _, _, _ :: _, [], _, h, _, _, _, _ => h.elim

theorem Chain.nil (w : World) : Chain w (.pointer none) (.pointer none) [] [] := ⟨rfl, rfl, by simp⟩
theorem Chain.lt {w : World} {a z : Value} {fs : List Lk.Fr} {rs : List Nat} (h : Chain w a z fs rs) : ∀ r ∈ rs, r < w.heap.size := fun r hr => let ⟨_, _, hI⟩ := h.links.is r hr; hI.lt
theorem Chain.only {S : Nat → Prop} {w w' : World} {a z : Value} {fs : List Lk.Fr} {rs : List Nat} (h : Chain w a z fs rs) (k : Only S w w') (hn : ∀ r ∈ rs, ¬ S r) : Chain w' a z fs rs := ⟨h.links.only k hn, h.last, h.nodup⟩
theorem Chain.empty {w : World} {a z : Value} {fs : List Lk.Fr} {rs : List Nat} (h : Chain w a z fs rs) : (fs = [] ∧ rs = [] ∧ a = .pointer none ∧ z = .pointer none) ∨ ∃ f fs' r rs', fs = f :: fs' ∧ rs = r :: rs' ∧ a = ptr r ∧ Is w r 141 (wtV f (firstV rs')) ∧ Chain w (firstV rs') (lastV rs') fs' rs' := by
  obtain ⟨hL, hz, hd⟩ := h
  cases fs with
  | nil =>
    cases rs with
    | nil => exact .inl ⟨rfl, rfl, hL, hz⟩
    | cons r rs => exact hL.elim
  | cons f fs =>
    cases rs with
    | nil => exact hL.elim
    | cons r rs =>
      obtain ⟨rfl, nx, hI, hL⟩ := hL
      have e := hL.len.2
      subst e
      exact .inr ⟨f, fs, r, rs, rfl, rfl, rfl, hI, hL, rfl, (List.nodup_cons.1 hd).2⟩
theorem lastV_cons {r : Nat} {rs : List Nat} (h : rs ≠ []) : lastV (r :: rs) = lastV rs := by
  cases rs with
  | nil => exact absurd rfl h
  | cons a b => simp [lastV]
theorem Chain.put_first {w : World} {n : Nat} {g : Lk.Fr} (hI : Is w n 141 (wtV g (.pointer none))) : Chain w (ptr n) (ptr n) [g] [n] := ⟨⟨rfl, _, hI, rfl⟩, rfl, by simp⟩
theorem Chain.put_more {w : World} {a z : Value} {fs : List Lk.Fr} {rs : List Nat} {n r : Nat} {g : Lk.Fr} (h : Chain w a z fs rs) (hr : rs.getLast? = some r) (hn : n ∉ rs) (hI : Is w n 141 (wtV g (.pointer none))) :
    Chain (w.setCell ⟨r, 3, none⟩ (ptr n)) a (ptr n) (fs ++ [g]) (rs ++ [n]) :=
  ⟨h.links.snoc hr h.nodup hn hI, by simp [lastV, optPtr], List.nodup_append.2 ⟨h.nodup, by simp, fun x hx y hy => by simp at hy; subst hy; rintro rfl; exact hn hx⟩⟩
end Go.Proofs.YtbkpdapagfjmmaaDoor

/-
  Walks: streams of its own: found, dropped.
-/
namespace Go.Proofs.YtbkpdapagfjmmaaDoor
open Go.RowKit

def owV (o : Lk.Ow) : List Value := [.int .i64 (o.id : Int), .int .i64 (o.cr : Int), .string (bs o.left)]
/-- Streams of its own, and their blocks. -/
structure Outs (w : World) (os : List Lk.Ow) (ps : List Nat) : Prop where
  len : os.length = ps.length
  is : ∀ (i : Nat) (o : Lk.Ow) (p : Nat), os[i]? = some o → ps[i]? = some p → Is w p 147 (owV o)
def dropV (sb : Nat) : Value := .func (.func 105) #[] #[.pointer (some ⟨sb, 0, none⟩)]
theorem Outs.only {S : Nat → Prop} {w w' : World} {os : List Lk.Ow} {ps : List Nat} (h : Outs w os ps) (k : Only S w w') (hn : ∀ p ∈ ps, ¬ S p) : Outs w' os ps :=
  ⟨h.len, fun i o p ho hp => (h.is i o p ho hp).only k (hn p (List.mem_of_getElem? hp))⟩
theorem Outs.get {w : World} {os : List Lk.Ow} {ps : List Nat} (h : Outs w os ps) {i : Nat} (hi : i < os.length) : ∃ o p, os[i]? = some o ∧ ps[i]? = some p ∧ Is w p 147 (owV o) := by
  have hp : i < ps.length := by rw [← h.len]; exact hi
  exact ⟨os[i], ps[i], List.getElem?_eq_getElem hi, List.getElem?_eq_getElem hp, h.is i _ _ (List.getElem?_eq_getElem hi) (List.getElem?_eq_getElem hp)⟩
theorem Outs.mem {w : World} {os : List Lk.Ow} {ps : List Nat} (h : Outs w os ps) {p : Nat} (hp : p ∈ ps) : ∃ o, Is w p 147 (owV o) := by
  obtain ⟨i, hi⟩ := List.getElem?_of_mem hp
  obtain ⟨o, p', _, hp', hI⟩ := h.get (i := i) (by
    rw [h.len]
    rcases Nat.lt_or_ge i ps.length with h | h
    · exact h
    · rw [List.getElem?_eq_none h] at hi; cases hi)
  rw [hi] at hp'
  cases hp'
  exact ⟨o, hI⟩
theorem row_ptr {w : World} {B g m cap i p : Nat} {T : TypeId} {ps : List Nat} (h : w.ownsRow B T 1 (.slice (some ⟨g, 0, none⟩) m cap) ps.length (ps.map ptr)) (hp : ps[i]? = some p) : g < w.heap.size ∧ w.cell? ⟨g, i, none⟩ = some (.pointer (some ⟨p, 0, none⟩)) := by
  have hi : i < ps.length := by
    rcases Nat.lt_or_ge i ps.length with h | h
    · exact h
    · rw [List.getElem?_eq_none h] at hp; cases hp
  rcases h.2 with ⟨h0, _⟩ | ⟨g', cap', cur, h0, _, hg, _, _, _, ht⟩
  · cases h0
  · cases h0
    have hI : Is w g T cur.toList := by unfold Is; simpa using hg
    refine ⟨hI.lt, ?_⟩
    rw [hI.cell i]
    have : (cur.toList.take (ps.length * 1))[i]? = some (ptr p) := by rw [ht]; simp [hp]
    rw [List.getElem?_take_of_lt (by omega)] at this
    exact this

theorem drop1_any (p sb : Nat) (o : Lk.Ow) (k : Int) (w : World) (hI : Is w p 147 (owV o)) (_hs : sb < w.heap.size) (c : w.cell? ⟨sb, 0, none⟩ = some (.int .i64 k)) :
    Calls Tryd.prog 105 #[.pointer (some ⟨p, 0, none⟩), .pointer (some ⟨sb, 0, none⟩)] w fun e w' => e = .returned (.bool ((o.id : Int) == k)) ∧ ∃ n, w' = w.drewN n := by
  have c0 := hI.cell 0
  simp only [owV, List.getElem?_cons_zero] at c0
  have hl := hI.lt
  clear hI
  go_enter Tryd.func105, Tryd.ntmps105
  go_wp2_with fail
  go_quiet (fail)
  go_wp2_with fail
  go_ret
  exact ⟨rfl, _, rfl⟩

def idxV (r : Option Nat) : Int := match r with
  | some i => (i : Int)
  | none => -1
def isId (k : Int) (o : Lk.Ow) : Bool := (o.id : Int) == k

set_option maxHeartbeats 1000000 in
set_option maxRecDepth 100000 in
theorem indexFunc_any (g m cap sb B : Nat) (os : List Lk.Ow) (ps : List Nat) (k : Int) (R : Option Nat) (w : World) (hO : Outs w os ps) (ho : w.ownsRow B 143 1 (.slice (some ⟨g, 0, none⟩) m cap) ps.length (ps.map ptr)) (hm : Hid (m = ps.length)) (h4 : ps.length ≤ 1000) (hs : sb < w.heap.size) (c : w.cell? ⟨sb, 0, none⟩ = some (.int .i64 k))
    (hR : Hid (os.findIdx? (isId k) = R)) :
    Calls Tryd.prog 110 #[.slice (some ⟨g, 0, none⟩) m cap, dropV sb] w fun e w' => e = .returned (.int .i64 (idxV R)) ∧ ∃ n, w' = w.drewN n := by
  have hol := hO.len
  have HO := hide hO
  have HW := hide ho
  clear hO ho
  unfold dropV
  go_enter Tryd.func110, Tryd.ntmps110
  go_wp2_with fail
  go_loopw [8] (fun u wr => ∃ j : Nat, u = .int .i64 j ∧ j ≤ m ∧ Hid (∀ i o, i < j → os[i]? = some o → isId k o = false) ∧ ∃ n, wr = w.drewN n) (fun u _ => m - (intOf u).toNat)
  case atStart => exact ⟨0, rfl, by omega, fun i o hi => by omega, 0, rfl⟩
  case round =>
    obtain ⟨j, rfl, hj, HJ, n, rfl⟩ := hrel
    by_cases hlt : j < m
    · have hme := unhide hm
      obtain ⟨o, p, ho, hp, hI⟩ := (unhide HO).get (i := j) (by omega)
      obtain ⟨hg, cp⟩ := row_ptr (unhide HW) hp
      have hlt' : (j : Int) < m := by omega
      have HC := hide (fun n => drop1_any p sb o k (w.drewN n) (hI.drewN n) hs c)
      have HOJ := hide ho
      have hjo : j < os.length := by omega
      clear hI ho hp hme
      by_cases hk : (o.id : Int) == k
      · have hRR : R = some j := by
          rw [← unhide hR]
          rw [List.findIdx?_eq_some_iff_getElem]
          refine ⟨hjo, ?_, ?_⟩
          · have := unhide HOJ
            rw [List.getElem?_eq_getElem hjo] at this
            cases this
            exact hk
          · intro i hi
            have := unhide HJ i os[i] hi (List.getElem?_eq_getElem (by omega))
            simp [this]
        subst hRR
        go_wp2_with fail
        refine (unhide HC n).mono ?_
        rintro e w1 ⟨rfl, n1, rfl⟩
        rw [hk]
        go_wp2_with fail
        go_ret
        exact ⟨rfl, n + n1, by first | rfl | simp⟩
      · have hk' : ((o.id : Int) == k) = false := by simpa using hk
        go_wp2_with fail
        refine (unhide HC n).mono ?_
        rintro e w1 ⟨rfl, n1, rfl⟩
        rw [hk']
        go_wp2_with fail
        go_roundw
        case rel =>
          refine ⟨j + 1, by simp, by omega, ?_, n + n1, by first | rfl | simp⟩
          intro i x hi hx
          by_cases e : i = j
          · subst e
            rw [unhide HOJ] at hx
            cases hx
            exact hk'
          · exact unhide HJ i x (by omega) hx
        case measure => simp [intOf]; omega
    · have hlt' : ¬ (j : Int) < m := by omega
      have hRR : R = none := by
        have hme := unhide hm
        rw [← unhide hR]
        rw [List.findIdx?_eq_none_iff]
        intro x hx
        obtain ⟨i, hi⟩ := List.getElem?_of_mem hx
        refine unhide HJ i x ?_ hi
        rcases Nat.lt_or_ge i os.length with h | h
        · omega
        · rw [List.getElem?_eq_none h] at hi; cases hi
      subst hRR
      go_wp2_with fail
      go_ret
      exact ⟨rfl, n, rfl⟩
end Go.Proofs.YtbkpdapagfjmmaaDoor
