import Derived.Test.YtbkpdapagfjmmaaGreatDoorML1W2
import Derived.Test.YtbkpdapagfjmmaaGreatDoorMPGW3
import Derived.Test.YtbkpdapagfjmmaaGreatDoorMW4W7
import Derived.Test.YtbkpdapagfjmmaaGreatDoorMF1PB
import Derived.Test.YtbkpdapagfjmmaaGreatDoorMD1D2
import Derived.Test.YtbkpdapagfjmmaaGreatDoorMSpecW0
import Derived.Test.YtbkpdapagfjmmaaGreatDoorMT1N1
import Derived.Test.YtbkpdapagfjmmaaGreatDoorMT5N3
import Derived.ArgAppend
import Derived.Lib.AppendZeros
set_option linter.unusedVariables false
set_option maxRecDepth 100000
set_option maxHeartbeats 16000000
namespace Go.Proofs.YtbkpdapagfjmmaaGreatDoor
open Go.RowKit
theorem Is.three {w : World} {b : Nat} {T : TypeId} {x y z : Value} (h : Is w b T [x, y, z]) : w.cell? ⟨b, 0, none⟩ = some x ∧ w.cell? ⟨b, 1, none⟩ = some y ∧ w.cell? ⟨b, 2, none⟩ = some z := ⟨h.cell 0, h.cell 1, h.cell 2⟩
end Go.Proofs.YtbkpdapagfjmmaaGreatDoor

namespace Go.Proofs.YtbkpdapagfjmmaaGreatDoor
open Go.RowKit
theorem ret_pack {a b : ByteArray} {x y : Int} (h : a = b) (h' : x = y) : Ending.returned (.tuple #[.string a, .int .i64 x]) = .returned (.tuple #[.string b, .int .i64 y]) := by rw [h, h']
def packStr (k st : Int) (l : Lk.Bs) : ByteArray := if Lk.packErr k st l = 0 then ⟨(Lk.packed k st l).toArray⟩ else ⟨#[]⟩
end Go.Proofs.YtbkpdapagfjmmaaGreatDoor

namespace Go.Proofs.YtbkpdapagfjmmaaGreatDoor
open Go.RowKit
end Go.Proofs.YtbkpdapagfjmmaaGreatDoor

namespace Go.Proofs.YtbkpdapagfjmmaaGreatDoor
open Go.RowKit
theorem framesV_at (fs : List Lk.Fr) : ∀ (i : Nat) (h : i < fs.length), (framesV fs)[i * 3]? = some (.int .i64 (fs[i].k : Int)) ∧ (framesV fs)[i * 3 + 1]? = some (.int .i64 (fs[i].st : Int)) ∧ (framesV fs)[i * 3 + 2]? = some (.string ⟨fs[i].d.toArray⟩) := by
  induction fs with
  | nil => intro i h; simp at h
  | cons f fs ih =>
    intro i h
    cases i with
    | zero => simp [framesV]
    | succ i =>
      have := ih i (by simpa using h)
      simp only [framesV, List.flatMap_cons, List.getElem_cons_succ] at this ⊢
      have e : (i + 1) * 3 = i * 3 + 3 := by omega
      rw [e]
      simpa using this
theorem owned_frames {w : World} {B : Nat} {T : TypeId} {v : Value} {fs : List Lk.Fr} (h : w.ownsRow B T 3 v fs.length (framesV fs)) :
    (fs = [] ∧ v = .slice none 0 0) ∨ ∃ g cap, v = .slice (some ⟨g, 0, none⟩) fs.length cap ∧ B ≤ g ∧ g < w.heap.size ∧ fs.length ≤ cap ∧ ∀ i (h : i < fs.length), w.cell? ⟨g, i * 3, none⟩ = some (.int .i64 (fs[i].k : Int)) ∧ w.cell? ⟨g, i * 3 + 1, none⟩ = some (.int .i64 (fs[i].st : Int)) ∧ w.cell? ⟨g, i * 3 + 2, none⟩ = some (.string ⟨fs[i].d.toArray⟩) := by
  rcases h.2 with ⟨rfl, h0⟩ | ⟨g, cap, cur, rfl, hB, hg, hn, hc, hs, ht⟩
  · exact .inl ⟨List.eq_nil_of_length_eq_zero h0, rfl⟩
  · have hI : Is w g T cur.toList := by unfold Is; simpa using hg
    refine .inr ⟨g, cap, rfl, hB, hI.lt, hn, fun i hi => ?_⟩
    have e := framesV_at fs i hi
    have hc : ∀ j, j < fs.length * 3 → w.cell? ⟨g, j, none⟩ = (framesV fs)[j]? := by
      intro j hj
      rw [hI.cell j, ← ht, List.getElem?_take_of_lt hj]
    rw [hc _ (by omega), hc _ (by omega), hc _ (by omega)]
    exact e
namespace Lk
theorem all_len : ∀ (l : Bs), 3 * (all l).1.length ≤ l.length := by
  intro l
  induction h : l.length using Nat.strongRecOn generalizing l with
  | _ n ih =>
    subst h
    cases hx : nx l with
    | more => rw [all_more hx]; simp
    | err e => rw [all_err hx]; simp
    | frame k st d n =>
      have hb := nx_frame_bounds hx
      have := ih (l.drop n).length (by rw [List.length_drop]; omega) (l.drop n) rfl
      rw [all_frame hx]
      simp only [List.length_cons]
      rw [List.length_drop] at this
      omega
theorem all_rest72 : ∀ (l : Bs), (all l).2.1 = 0 → (all l).2.2.length ≤ 72 := by
  intro l
  induction h : l.length using Nat.strongRecOn generalizing l with
  | _ n ih =>
    subst h
    cases hx : nx l with
    | more => rw [all_more hx]; intro _; exact nx_more_len hx
    | err e => rw [all_err hx]; simp
    | frame k st d n =>
      have hb := nx_frame_bounds hx
      have := ih (l.drop n).length (by rw [List.length_drop]; omega) (l.drop n) rfl
      rw [all_frame hx]
      exact this
def fedFrames (l : Bs) (f : Int) (s : Bs) : List Fr := if f = 0 then (all (l ++ s)).1 else []
def fedErr (l : Bs) (f : Int) (s : Bs) : Int := if f = 0 then ((all (l ++ s)).2.1 : Int) else f
def fedRest (l : Bs) (f : Int) (s : Bs) : Bs := if f = 0 then (all (l ++ s)).2.2 else l
end Lk
end Go.Proofs.YtbkpdapagfjmmaaGreatDoor

namespace Go.Proofs.YtbkpdapagfjmmaaGreatDoor
open Go.RowKit
end Go.Proofs.YtbkpdapagfjmmaaGreatDoor

namespace Go.Proofs.YtbkpdapagfjmmaaGreatDoor
open Go.RowKit
structure Readers (B : Nat) (w : World) (E T : TypeId) (cs : List Value) (v : Value) (rs : List Nat) : Prop where
  own : w.ownsRow B E 1 v rs.length (rs.map ptr)
  nd : rs.Nodup
  is : ∀ r ∈ rs, B ≤ r ∧ Is w r T cs
theorem Readers.nil (B : Nat) (w : World) (E T : TypeId) (cs : List Value) : Readers B w E T cs nilS [] := ⟨World.ownsRow_nil _ _ _ _, List.nodup_nil, by simp⟩
theorem Readers.grown {B : Nat} {w w' : World} {E T : TypeId} {cs : List Value} {v : Value} {rs : List Nat} (h : Readers B w E T cs v rs) {row : Option Nat} (hg : w.grownBy w' row)
    (h1 : v.ownBlock = none ∨ v.ownBlock ≠ row) (h2 : ∀ r ∈ rs, some r ≠ row) : Readers B w' E T cs v rs :=
  ⟨h.own.kept hg h1, h.nd, fun r hr => ⟨(h.is r hr).1, (h.is r hr).2.grown hg (h2 r hr)⟩⟩
theorem Readers.below {B : Nat} {w w' : World} {E T : TypeId} {cs : List Value} {v : Value} {rs : List Nat} (h : Readers B w E T cs v rs) (hb : Below w.heap.size w w') : Readers B w' E T cs v rs :=
  h.grown (row := none) ⟨hb.os, hb.tape, hb.output, hb.size, fun i hi _ => hb.block i hi⟩ (by cases v.ownBlock <;> simp) (by simp)
theorem Readers.alloc {B : Nat} {w : World} {E T : TypeId} {cs : List Value} {v : Value} {rs : List Nat} (h : Readers B w E T cs v rs) (o : Obj) : Readers B (w.alloc o) E T cs v rs :=
  h.below ((Below.refl _ _).alloc (Nat.le_refl _) o)
structure Making (B M : Nat) (pv : Value) (w : World) (vR vS : Value) (rs ss : List Nat) : Prop where
  made : Is w M 132 [vR, vS, nilS, nilS, nilS, nilS, pv]
  R : Readers B w 133 85 [.string ⟨#[]⟩, .int .i64 0, .int .i64 0] vR rs
  S : Readers B w 52 54 [.string ⟨#[]⟩, .int .i64 0] vS ss
end Go.Proofs.YtbkpdapagfjmmaaGreatDoor

namespace Go.Proofs.YtbkpdapagfjmmaaGreatDoor
open Go.RowKit
theorem refFeed_any (b : Nat) (s t : ByteArray) (l : Lk.Bs) (f : Int) (w : World) (hs : f = 0 → s.data.toList = l ∧ l.length ≤ 72) (ht : t.size ≤ 2 ^ 39) (hI : Is w b 54 [.string s, .int .i64 f]) :
    Calls Tryz.prog 21 #[.pointer (some ⟨b, 0, none⟩), .string t] w fun e w' =>
      ∃ v, e = .returned (.tuple #[v, .int .i64 (Lk.fedErr l f t.data.toList)])
        ∧ w'.ownsRow w.heap.size 66 3 v (Lk.fedFrames l f t.data.toList).length (framesV (Lk.fedFrames l f t.data.toList))
        ∧ (∃ s' : ByteArray, Is w' b 54 [.string s', .int .i64 (Lk.fedErr l f t.data.toList)] ∧ (Lk.fedErr l f t.data.toList = 0 → s'.data.toList = Lk.fedRest l f t.data.toList))
        ∧ Turns b w w' := by
  unfold Lk.fedErr Lk.fedFrames Lk.fedRest
  by_cases hf : f = 0
  · subst hf
    obtain ⟨rfl, hl⟩ := hs rfl
    simp only [if_true]
    refine (refFeed_ok b s t w (by rw [size_list]; omega) hI).mono ?_
    rintro e w' ⟨v, rfl, ho, ⟨R, hI', hR⟩, hT⟩
    exact ⟨v, rfl, ho, ⟨R, hI', fun h => hR (by omega)⟩, hT⟩
  · simp only [if_neg hf]
    refine (refFeed_bad b s t f w hf hI).mono ?_
    rintro e w' ⟨rfl, n, rfl⟩
    exact ⟨_, rfl, World.ownsRow_nil _ _ _ _, ⟨s, hI.drewN n, fun h => absurd h hf⟩, (Turns.refl _ _).drewN n⟩
def Pairs (w : World) (r s : Nat) : Prop := ∃ (t R : ByteArray) (f : Int), Is w r 85 [.string t, .int .i64 0, .int .i64 f] ∧ Is w s 54 [.string R, .int .i64 f] ∧ (f = 0 → R.data.toList = t.data.toList ∧ t.size ≤ 72)
theorem Pairs.grown {w w' : World} {r s : Nat} (h : Pairs w r s) {row : Option Nat} (hg : w.grownBy w' row) (h1 : some r ≠ row) (h2 : some s ≠ row) : Pairs w' r s := by
  obtain ⟨t, R, f, a, b, c⟩ := h
  exact ⟨t, R, f, a.grown hg h1, b.grown hg h2, c⟩
structure Rig (B M gR gS cR cS : Nat) (pv : Value) (r0 r1 s0 s1 : Nat) (w : World) : Prop where
  made : Is w M 132 [.slice (some ⟨gR, 0, none⟩) 2 cR, .slice (some ⟨gS, 0, none⟩) 2 cS, nilS, nilS, nilS, nilS, pv]
  rowR : ∃ t, Is w gR 133 (ptr r0 :: ptr r1 :: t)
  rowS : ∃ t, Is w gS 52 (ptr s0 :: ptr s1 :: t)
  p0 : Pairs w r0 s0
  p1 : Pairs w r1 s1
  ner : r0 ≠ r1
  nes : s0 ≠ s1
  hM : B ≤ M
  hR : B ≤ gR
  hS : B ≤ gS
  h0 : B ≤ r0 ∧ B ≤ s0
  h1 : B ≤ r1 ∧ B ≤ s1
  cR2 : 2 ≤ cR
  cS2 : 2 ≤ cS
end Go.Proofs.YtbkpdapagfjmmaaGreatDoor

namespace Go.Proofs.YtbkpdapagfjmmaaGreatDoor
open Go.RowKit
theorem info_str : (Tryz.prog.info? 9).map (fun i => (i.zero, i.size, i.bytes)) = some (some (.string ⟨#[]⟩), 1, 16) := by kernel_rfl
def QRow (w : World) (v : Value) (l : List Lk.Bs) : Prop :=
  (l = [] ∧ v = .slice none 0 0) ∨ ∃ g off cap cur, v = .slice (some ⟨g, off, none⟩) l.length cap ∧ Is w g 9 cur ∧ l.length ≤ cap ∧ cap ≤ maxLen ∧ off + cap ≤ cur.length ∧ ∀ (i : Nat) (x : Lk.Bs), l[i]? = some x → cur[off + i]? = some (.string (bs x))
theorem QRow.nil (w : World) : QRow w nilS [] := .inl ⟨rfl, rfl⟩
theorem QRow.form {w : World} {v : Value} {l : List Lk.Bs} (h : QRow w v l) : ∃ a cap, v = .slice a l.length cap := by
  rcases h with ⟨rfl, rfl⟩ | ⟨g, off, cap, cur, rfl, _⟩
  · exact ⟨_, _, rfl⟩
  · exact ⟨_, _, rfl⟩
theorem QRow.lt {w : World} {v : Value} {l : List Lk.Bs} (h : QRow w v l) {i : Nat} (hi : v.ownBlock = some i) : i < w.heap.size := by
  rcases h with ⟨rfl, rfl⟩ | ⟨g, off, cap, cur, rfl, hI, _⟩
  · cases hi
  · cases hi
    exact hI.lt
theorem QRow.only {S : Nat → Prop} {w w' : World} {v : Value} {l : List Lk.Bs} (h : QRow w v l) (k : Only S w w') (hn : ∀ i, v.ownBlock = some i → ¬ S i) : QRow w' v l := by
  rcases h with ⟨rfl, rfl⟩ | ⟨g, off, cap, cur, rfl, hI, h⟩
  · exact .inl ⟨rfl, rfl⟩
  · exact .inr ⟨g, off, cap, cur, rfl, hI.only k (hn g rfl), h⟩
theorem QRow.ne {w : World} {v : Value} {l : List Lk.Bs} {b : Nat} {T : TypeId} {cs : List Value} (h : QRow w v l) (h' : Is w b T cs) (hT : T ≠ 9) : some b ≠ v.ownBlock := by
  rcases h with ⟨rfl, rfl⟩ | ⟨g, off, cap, cur, rfl, hI, _⟩
  · intro e; cases e
  · intro e
    have e : b = g := by simpa [Value.ownBlock] using e
    exact h'.ne hI hT e
theorem QRow.head {w : World} {v : Value} {x : Lk.Bs} {l : List Lk.Bs} (h : QRow w v (x :: l)) : ∃ g off cap, v = .slice (some ⟨g, off, none⟩) (l.length + 1) cap ∧ g < w.heap.size ∧ l.length + 1 ≤ cap ∧ cap ≤ maxLen ∧ w.cell? ⟨g, off, none⟩ = some (.string (bs x)) ∧ QRow w (.slice (some ⟨g, off + 1, none⟩) l.length (cap - 1)) l := by
  rcases h with ⟨h0, _⟩ | ⟨g, off, cap, cur, rfl, hI, h1, h2, h3, h4⟩
  · cases h0
  · simp only [List.length_cons] at h1
    refine ⟨g, off, cap, rfl, hI.lt, h1, h2, ?_, .inr ⟨g, off + 1, cap - 1, cur, rfl, hI, by omega, by omega, by omega, fun i y hy => ?_⟩⟩
    · rw [hI.cell]
      exact h4 0 x rfl
    · have := h4 (i + 1) y (by simpa using hy)
      rw [← this]
      congr 1
      omega
def textsV (l : List Lk.Bs) : List Value := l.map fun x => .string (bs x)
theorem QRow.of_own {w : World} {B : Nat} {v : Value} {l : List Lk.Bs} (h : w.ownsRow B 9 1 v l.length (textsV l)) : QRow w v l := by
  rcases h.2 with ⟨rfl, h0⟩ | ⟨g, cap, cur, rfl, hB, hg, hn, hc, hs, ht⟩
  · exact .inl ⟨List.eq_nil_of_length_eq_zero h0, rfl⟩
  · have hI : Is w g 9 cur.toList := by unfold Is; simpa using hg
    refine .inr ⟨g, 0, cap, cur.toList, rfl, hI, hn, hc, ?_, fun i x hx => ?_⟩
    · rw [Array.length_toList]
      omega
    · have hi : i < l.length := (List.getElem?_eq_some_iff.1 hx).1
      have e : (cur.toList.take (l.length * 1))[i]? = (textsV l)[i]? := by rw [ht]
      rw [List.getElem?_take_of_lt (by omega)] at e
      rw [Nat.zero_add, e]
      unfold textsV
      rw [List.getElem?_map, hx]
      rfl
theorem QRow.push {w : World} {v : Value} {l : List Lk.Bs} (h : QRow w v l) (x : Lk.Bs) (a : Addr) (ha : w.cell? a = some (.string (bs x))) (hn : l.length ≤ 2 ^ 42) (ty : TypeId) :
    ∃ v' w', (Builtin.append_ #[31, 31] ty #[v, .slice (some a) 1 1]).run Tryz.prog w = .ok v' w' ∧ QRow w' v' (l ++ [x]) ∧ (v'.ownBlock = v.ownBlock ∨ ∀ k, v'.ownBlock = some k → w.heap.size ≤ k) ∧ Only (fun i => v.ownBlock = some i) w w' := by
  obtain ⟨i, hi, hz0, hz1, hz2⟩ := info_parts info_str
  have hadd : ∀ (b : Addr), b.add 0 = b := fun b => by simp [Addr.add]
  have hnews : ∀ j u, [(.string (bs x) : Value)][j]? = some u → w.cell? (a.add j) = some u := fun j u hj => by
    cases j with
    | zero => rw [hadd, ha]; exact hj
    | succ j => cases hj
  have hmx : l.length + 1 ≤ maxLen := by unfold maxLen; omega
  have hone : ∀ u ∈ [(.string (bs x) : Value)], u.oneCell' = true := fun u hu => by simp at hu; subst hu; rfl
  have htx : textsV l ++ [.string (bs x)] = textsV (l ++ [x]) := by simp [textsV]
  rcases h with ⟨rfl, rfl⟩ | ⟨g, off, cap, cur, rfl, hI, h1, h2, h3, h4⟩
  · obtain ⟨v', w', hr, ho, hg, _⟩ := run_append_own (P := Tryz.prog) w w.heap.size 31 ty 9 i (.string ⟨#[]⟩) 1 16 Tryz.underlying31 hi hz0 hz1 hz2 rfl (by omega) (.slice none 0 0) 0 [] (World.ownsRow_nil _ _ _ _) a 1 1 [.string (bs x)] rfl hnews hone (by omega) (by omega) (Nat.le_refl _)
    refine ⟨v', w', hr, QRow.of_own (B := w.heap.size) (l := [] ++ [x]) ho, .inr (fun k hk => (ho.lt k hk).1), ?_⟩
    exact (Only.of_grown hg).mono (fun i hi => by cases hi)
  · by_cases hroom : l.length + 1 ≤ cap
    · have hlt : off + l.length < cur.length := by omega
      have hc0 : w.cell? ⟨g, off + l.length, none⟩ = some cur[off + l.length] := by rw [hI.cell, List.getElem?_eq_getElem hlt]
      have hr := run_append_room_cells (P := Tryz.prog) w 31 ty 9 i Tryz.underlying31 hi g off l.length cap a 1 1 [.string (bs x)] (by rw [hz1]; rfl) hnews hone hroom
        (fun j hj => by
          have : j = 0 := by simpa using hj
          subst this
          rw [hz1, Nat.mul_one, Nat.add_zero, hc0]
          rfl)
        (fun j _ => hI.free _)
      rw [hz1, Nat.mul_one] at hr
      have hset : w.setCells g (off + l.length) [.string (bs x)] = w.setCell ⟨g, off + l.length, none⟩ (.string (bs x)) := rfl
      rw [hset] at hr
      refine ⟨_, _, hr, .inr ⟨g, off, cap, cur.set (off + l.length) (.string (bs x)), by simp, hI.set _ _, by simpa using hroom, h2, by simpa using h3, fun j y hj => ?_⟩, .inl rfl, (Only.refl _ w).set g _ _ (fun _ => rfl)⟩
      rw [List.getElem?_append] at hj
      split at hj
      · rename_i hjl
        rw [List.getElem?_set_ne (by omega)]
        exact h4 j y hj
      · rename_i hjl
        have : j = l.length := by
          have := (List.getElem?_eq_some_iff.1 hj).1
          simp at this
          omega
        subst this
        simp at hj
        subst hj
        rw [List.getElem?_set_self hlt]
    · have holds : ∀ j u, (textsV l)[j]? = some u → w.cell? ((⟨g, off, none⟩ : Addr).add j) = some u := fun j u hj => by
        unfold textsV at hj
        rw [List.getElem?_map] at hj
        cases hx : l[j]? with
        | none => rw [hx] at hj; cases hj
        | some y =>
          rw [hx] at hj
          cases hj
          have e : (⟨g, off, none⟩ : Addr).add j = ⟨g, off + j, none⟩ := by unfold Addr.add; split <;> simp_all
          rw [e, hI.cell]
          exact h4 j y hx
      obtain ⟨v', w', hr, ho, hg⟩ := run_append_arg_grows (P := Tryz.prog) w 31 ty 9 i (.string ⟨#[]⟩) 1 16 Tryz.underlying31 hi hz0 hz1 hz2 rfl (by omega) ⟨g, off, none⟩ l.length cap (textsV l) (by simp [textsV]) holds a 1 1 [.string (bs x)] rfl hnews (by omega) hmx (by omega)
      rw [htx] at ho
      refine ⟨v', w', hr, QRow.of_own (B := w.heap.size) (by simpa using ho), .inr (fun k hk => (ho.lt k hk).1), ?_⟩
      exact (Only.of_grown hg).mono (fun i hi => by cases hi)
end Go.Proofs.YtbkpdapagfjmmaaGreatDoor

namespace Go.Proofs.YtbkpdapagfjmmaaGreatDoor
open Go.RowKit
def rwV (o : Lk.Ow) : List Value := [.int .i64 (o.id : Int), .string (bs o.left), .int .i64 (o.cr : Int), .bool o.done]
def rwsV (l : List Lk.Ow) : List Value := l.flatMap rwV
def rtV (o : Lk.Ot) : List Value := [.int .i64 (o.id : Int), .int .i64 (o.cr : Int), .int .i64 (o.held : Int), .bool o.opn, .bool o.drp]
def rtsV (l : List Lk.Ot) : List Value := l.flatMap rtV
theorem flat_len {α : Type} (f : α → List Value) (n : Nat) (hf : ∀ x, (f x).length = n) (l : List α) : (l.flatMap f).length = l.length * n := by
  induction l with
  | nil => simp
  | cons x l ih => simp only [List.flatMap_cons, List.length_append, hf, ih, List.length_cons]; rw [Nat.add_mul, Nat.one_mul]; omega
theorem flat_at {α : Type} (f : α → List Value) (n : Nat) (hf : ∀ x, (f x).length = n) (l : List α) : ∀ (i j : Nat) (x : α), l[i]? = some x → j < n → (l.flatMap f)[i * n + j]? = (f x)[j]? := by
  induction l with
  | nil => intro i j x h; simp at h
  | cons y l ih =>
    intro i j x h hj
    simp only [List.flatMap_cons]
    cases i with
    | zero =>
      simp at h
      subst h
      rw [Nat.zero_mul, Nat.zero_add, List.getElem?_append_left (by rw [hf]; exact hj)]
    | succ i =>
      have := ih i j x (by simpa using h) hj
      rw [List.getElem?_append_right (by rw [hf, Nat.add_mul, Nat.one_mul]; omega), hf, ← this]
      congr 1
      rw [Nat.add_mul, Nat.one_mul]
      omega
theorem flat_set {α : Type} (f : α → List Value) (n : Nat) (hf : ∀ x, (f x).length = n) (l : List α) : ∀ (i j : Nat) (x y : α) (v : Value), l[i]? = some x → j < n → (f x).set j v = f y → (l.flatMap f).set (i * n + j) v = (l.set i y).flatMap f := by
  induction l with
  | nil => intro i j x y v h; simp at h
  | cons z l ih =>
    intro i j x y v h hj hv
    simp only [List.flatMap_cons]
    cases i with
    | zero =>
      simp at h
      subst h
      rw [Nat.zero_mul, Nat.zero_add, List.set_append_left _ _ (by rw [hf]; exact hj), hv]
      simp
    | succ i =>
      have := ih i j x y v (by simpa using h) hj hv
      rw [List.set_append_right _ _ (by rw [hf, Nat.add_mul, Nat.one_mul]; omega), hf]
      have e : (i + 1) * n + j - n = i * n + j := by rw [Nat.add_mul, Nat.one_mul]; omega
      rw [e, this]
      simp
theorem owned_flat {α : Type} {w : World} {B n : Nat} {T : TypeId} {v : Value} {l : List α} (f : α → List Value) (hf : ∀ x, (f x).length = n) (h : w.ownsRow B T n v l.length (l.flatMap f)) {i : Nat} {x : α} (hx : l[i]? = some x) :
    ∃ g cap, v = .slice (some ⟨g, 0, none⟩) l.length cap ∧ B ≤ g ∧ g < w.heap.size ∧ l.length ≤ cap ∧ (∀ j, j < n → w.cell? ⟨g, i * n + j, none⟩ = (f x)[j]?) ∧ ∀ j, w.frozen? ⟨g, j, none⟩ = false := by
  have hi : i < l.length := (List.getElem?_eq_some_iff.1 hx).1
  rcases h.2 with ⟨_, h0⟩ | ⟨g, cap, cur, rfl, hB, hg, hn, hc, hs, ht⟩
  · omega
  · have hI : Is w g T cur.toList := by unfold Is; simpa using hg
    refine ⟨g, cap, rfl, hB, hI.lt, hn, fun j hj => ?_, fun j => hI.free j⟩
    have hlt : i * n + j < l.length * n := by
      have : (i + 1) * n ≤ l.length * n := Nat.mul_le_mul_right _ (by omega)
      rw [Nat.add_mul, Nat.one_mul] at this
      omega
    rw [hI.cell, ← flat_at f n hf l i j x hx hj, ← ht, List.getElem?_take_of_lt hlt]
theorem flat_write {α : Type} {w : World} {B n g cap : Nat} {T : TypeId} {l : List α} (f : α → List Value) (hf : ∀ x, (f x).length = n) (h : w.ownsRow B T n (.slice (some ⟨g, 0, none⟩) l.length cap) l.length (l.flatMap f)) {i j : Nat} {x y : α} {v : Value} (hx : l[i]? = some x) (hj : j < n) (hv : (f x).set j v = f y) :
    (w.setCell ⟨g, i * n + j, none⟩ v).ownsRow B T n (.slice (some ⟨g, 0, none⟩) l.length cap) (l.set i y).length ((l.set i y).flatMap f) := by
  rcases h.2 with ⟨h0, _⟩ | ⟨g', cap', cur, h0, h1, h2, h3, h4, h5, h6⟩
  · cases h0
  · cases h0
    have hI : Is w g T cur.toList := by unfold Is; simpa using h2
    have hI' := hI.set (i * n + j) v
    unfold Is at hI'
    refine ⟨flat_len f n hf _, .inr ⟨g, cap, (cur.toList.set (i * n + j) v).toArray, by simp, h1, hI', by simpa using h3, h4, by simpa using h5, ?_⟩⟩
    rw [List.length_set, ← flat_set f n hf l i j x y v hx hj hv, ← h6, List.take_set]
structure RP where
  ob : Nat
  ib : Nat
  rb : Nat
  vo : Value
  vi : Value
  rv : Value
  wv : Value
  tv : Value
def reCells (e : Lk.En) (p : RP) : List Value := [.int .i64 (e.side : Int), .int .i64 (e.win : Int), ptr p.ob, ptr p.ib, ptr p.rb, p.rv, p.wv, p.tv, .int .i64 (e.all : Int), .int .i64 (e.room : Int), .int .i64 (e.turn : Int), .bool e.byeS, .bool e.byeC, .int .i64 (e.down : Int)]
def rfoot (b : Nat) (p : RP) (i : Nat) : Prop := i = b ∨ i = p.ob ∨ i = p.ib ∨ i = p.rb ∨ p.vo.ownBlock = some i ∨ p.vi.ownBlock = some i ∨ p.rv.ownBlock = some i ∨ p.wv.ownBlock = some i ∨ p.tv.ownBlock = some i
structure REnd (κ : Prop) (w : World) (b : Nat) (e : Lk.En) (p : RP) : Prop where
  blk : Is w b 200 (reCells e p)
  out : RTab w p.ob 100 e.out p.vo
  inn : RTab w p.ib 100 e.inn p.vi
  rd : ∃ s f, Is w p.rb 54 [.string s, .int .i64 f] ∧ (κ → e.down = 0 → f = 0 ∧ s.data.toList = e.rest)
  row : QRow w p.rv e.row
  own : w.ownsRow 0 258 4 p.wv e.own.length (rwsV e.own)
  oth : w.ownsRow 0 265 5 p.tv e.oth.length (rtsV e.oth)
  ne : p.ob ≠ p.ib
  nv : p.vo.ownBlock = none ∨ p.vo.ownBlock ≠ p.vi.ownBlock
section
variable {κ : Prop} {w w' : World} {b : Nat} {e e' : Lk.En} {p : RP}
theorem REnd.lt (h : REnd κ w b e p) {i : Nat} (hi : rfoot b p i) : i < w.heap.size := by
  rcases hi with rfl | rfl | rfl | rfl | hi | hi | hi | hi | hi
  · exact h.blk.lt
  · exact h.out.blk.lt
  · exact h.inn.blk.lt
  · obtain ⟨s, f, h1, _⟩ := h.rd
    exact h1.lt
  · exact (h.out.own.lt i hi).2
  · exact (h.inn.own.lt i hi).2
  · exact h.row.lt hi
  · exact (h.own.lt i hi).2
  · exact (h.oth.lt i hi).2
theorem RTab.only {S : Nat → Prop} {t B : Nat} {L : List Lk.Hd} {v : Value} (h : RTab w t B L v) (k : Only S w w') (h1 : ¬ S t) (h2 : ∀ i, v.ownBlock = some i → ¬ S i) : RTab w' t B L v :=
  ⟨h.blk.only k h1, own_only h.own k h2, h.le, h.hB⟩
theorem REnd.only {S : Nat → Prop} (h : REnd κ w b e p) (k : Only S w w') (hn : ∀ i, rfoot b p i → ¬ S i) : REnd κ w' b e p := by
  obtain ⟨s, f, h1, h2⟩ := h.rd
  have f1 : ∀ i, p.vo.ownBlock = some i → rfoot b p i := fun i hi => .inr (.inr (.inr (.inr (.inl hi))))
  have f2 : ∀ i, p.vi.ownBlock = some i → rfoot b p i := fun i hi => .inr (.inr (.inr (.inr (.inr (.inl hi)))))
  have f3 : ∀ i, p.rv.ownBlock = some i → rfoot b p i := fun i hi => .inr (.inr (.inr (.inr (.inr (.inr (.inl hi))))))
  have f4 : ∀ i, p.wv.ownBlock = some i → rfoot b p i := fun i hi => .inr (.inr (.inr (.inr (.inr (.inr (.inr (.inl hi)))))))
  have f5 : ∀ i, p.tv.ownBlock = some i → rfoot b p i := fun i hi => .inr (.inr (.inr (.inr (.inr (.inr (.inr (.inr hi)))))))
  exact ⟨h.blk.only k (hn _ (.inl rfl)), h.out.only k (hn _ (.inr (.inl rfl))) (fun i hi => hn i (f1 i hi)), h.inn.only k (hn _ (.inr (.inr (.inl rfl)))) (fun i hi => hn i (f2 i hi)), ⟨s, f, h1.only k (hn _ (.inr (.inr (.inr (.inl rfl))))), h2⟩, h.row.only k (fun i hi => hn i (f3 i hi)), own_only h.own k (fun i hi => hn i (f4 i hi)), own_only h.oth k (fun i hi => hn i (f5 i hi)), h.ne, h.nv⟩
theorem REnd.below (h : REnd κ w b e p) (k : Below w.heap.size w w') : REnd κ w' b e p := h.only (Only.of_below k (fun _ => False)) (fun _ _ x => x)
theorem REnd.apart (h : REnd κ w b e p) : b ≠ p.ob ∧ b ≠ p.ib ∧ b ≠ p.rb ∧ (∀ i, p.vo.ownBlock = some i → i ≠ b) ∧ (∀ i, p.vi.ownBlock = some i → i ≠ b) ∧ (∀ i, p.rv.ownBlock = some i → i ≠ b) ∧ (∀ i, p.wv.ownBlock = some i → i ≠ b) ∧ (∀ i, p.tv.ownBlock = some i → i ≠ b) := by
  obtain ⟨s, f, h1, _⟩ := h.rd
  exact ⟨h.blk.ne h.out.blk (nbq rfl), h.blk.ne h.inn.blk (nbq rfl), h.blk.ne h1 (nbq rfl), fun i hi e => own_ne h.out.own h.blk (nbq rfl) (by rw [hi, e]), fun i hi e => own_ne h.inn.own h.blk (nbq rfl) (by rw [hi, e]), fun i hi e => h.row.ne h.blk (nbq rfl) (by rw [hi, e]), fun i hi e => own_ne h.own h.blk (nbq rfl) (by rw [hi, e]), fun i hi e => own_ne h.oth h.blk (nbq rfl) (by rw [hi, e])⟩
theorem REnd.cells (h : REnd κ w b e p) (hI : Is w' b 200 (reCells e' p)) (hO : Only (· = b) w w') (h1 : e'.out = e.out) (h2 : e'.inn = e.inn) (h3 : e'.row = e.row) (h4 : e'.own = e.own) (h5 : e'.oth = e.oth) (h6 : e'.down = 0 → e.down = 0 ∧ e'.rest = e.rest) : REnd κ w' b e' p := by
  obtain ⟨a1, a2, a3, a4, a5, a6, a7, a8⟩ := h.apart
  obtain ⟨s, f, r1, r2⟩ := h.rd
  refine ⟨hI, by rw [h1]; exact h.out.only hO (Ne.symm a1) a4, by rw [h2]; exact h.inn.only hO (Ne.symm a2) a5, ⟨s, f, r1.only hO (Ne.symm a3), fun hk hd => ?_⟩, by rw [h3]; exact h.row.only hO a6, by rw [h4]; exact own_only h.own hO a7, by rw [h5]; exact own_only h.oth hO a8, h.ne, h.nv⟩
  obtain ⟨g1, g2⟩ := h6 hd
  rw [g2]
  exact r2 hk g1
theorem REnd.set (h : REnd κ w b e p) (i : Nat) (v : Value) (hc : (reCells e p).set i v = reCells e' p) (h1 : e'.out = e.out) (h2 : e'.inn = e.inn) (h3 : e'.row = e.row) (h4 : e'.own = e.own) (h5 : e'.oth = e.oth) (h6 : e'.down = 0 → e.down = 0 ∧ e'.rest = e.rest) : REnd κ (w.setCell ⟨b, i, none⟩ v) b e' p := by
  have hI := h.blk.set i v
  rw [hc] at hI
  exact h.cells hI ((Only.refl _ w).set b i v (fun _ => rfl)) h1 h2 h3 h4 h5 h6
end
variable {κ : Prop}
def RPost (κ : Prop) (w : World) (b : Nat) (p : RP) (e' : Lk.En) (w' : World) : Prop := ∃ p', REnd κ w' b e' p' ∧ (∀ i, rfoot b p' i → rfoot b p i ∨ w.heap.size ≤ i) ∧ Only (rfoot b p) w w'
theorem RPost.same {w : World} {b : Nat} {e : Lk.En} {p : RP} (h : REnd κ w b e p) : RPost κ w b p e w := ⟨p, h, fun _ hi => .inl hi, Only.refl _ _⟩
theorem RPost.trans {w w1 w2 : World} {b : Nat} {p p1 : RP} {e2 : Lk.En} (hf : ∀ i, rfoot b p1 i → rfoot b p i ∨ w.heap.size ≤ i) (hO : Only (rfoot b p) w w1) (h : RPost κ w1 b p1 e2 w2) : RPost κ w b p e2 w2 := by
  obtain ⟨p2, h1, h2, h3⟩ := h
  refine ⟨p2, h1, fun i hi => ?_, hO.trans h3 (fun i hi hlt => ?_)⟩
  · rcases h2 i hi with h | h
    · exact hf i h
    · exact .inr (Nat.le_trans hO.size h)
  · rcases hf i hi with h | h
    · exact h
    · omega
theorem RPost.before {w w1 w2 : World} {b : Nat} {p : RP} {e2 : Lk.En} (hb : Below w.heap.size w w1) (h : RPost κ w1 b p e2 w2) : RPost κ w b p e2 w2 := RPost.trans (fun _ hi => .inl hi) (Only.of_below hb _) h
theorem RPost.after {w w1 w2 : World} {b : Nat} {p : RP} {e2 : Lk.En} (h : RPost κ w b p e2 w1) (hb : Below w1.heap.size w1 w2) : RPost κ w b p e2 w2 := by
  obtain ⟨p2, h1, h2, h3⟩ := h
  exact ⟨p2, h1.below hb, h2, h3.below hb⟩
end Go.Proofs.YtbkpdapagfjmmaaGreatDoor

namespace Go.Proofs.YtbkpdapagfjmmaaGreatDoor
open Go.RowKit
theorem refNumber_small (n : Nat) (h : n < 128) (w : World) :
    Calls Tryz.prog 99 #[.int .i64 n] w fun e w' => e = .returned (.string ⟨(Lk.wire n).toArray⟩) ∧ Below w.heap.size w w' := by
  have k1 := one_string
  go_enter Tryz.func99, Tryz.ntmps99
  go_wp2_with fail
  go_ret
  exact ⟨ret_string (by rw [Lk.wire_small n h]), (Below.refl _ _).alloc (Nat.le_refl _) _⟩
theorem join1 (n : Nat) (k : UInt8) (l : Array UInt8) (hk : k = UInt8.ofNat (128 + n % 128)) (h : 128 ≤ n) (hl : Hid ((Lk.wire (n / 128)).toArray = l)) : (⟨#[k]⟩ : ByteArray) ++ ⟨l⟩ = ⟨(Lk.wire n).toArray⟩ := by
  rw [← uh hl, Lk.wire_big n (by omega), hk]
  exact ByteArray.mk_append_mk [_] _
theorem refNumber_big (n : Nat) (h : 128 ≤ n) (hn : n ≤ 268435455) (w : World) (ih : Hid (∀ (m : Int) w, m = ((n / 128 : Nat) : Int) → Calls Tryz.prog 99 #[.int .i64 m] w fun e w' => e = .returned (.string ⟨(Lk.wire (n / 128)).toArray⟩) ∧ Below w.heap.size w w')) :
    Calls Tryz.prog 99 #[.int .i64 n] w fun e w' => e = .returned (.string ⟨(Lk.wire n).toArray⟩) ∧ Below w.heap.size w w' := by
  have k1 := one_string
  have k2 := fun W => cell_string W w.heap.size (IntKind.u8.wrap (IntKind.i64.wrap (128 + (n : Int).tmod 128)))
  have hn' : ¬ (n : Int) < 128 := by omega
  have hsz := Lk.wire_len_le4 (n / 128) (by omega)
  generalize hl : (Lk.wire (n / 128)).toArray = l at ih
  have hl4 : l.size ≤ 4 := by rw [← hl]; simpa using hsz
  have hl4' : 1 + l.size ≤ 9223372036854775807 := by omega
  clear hsz
  have HL := hide hl
  clear hl
  go_enter Tryz.func99, Tryz.ntmps99
  go_wp2_with fail
  go_region_with (go_at_call 99; refine (uh ih _ _ ?_).mono ?_; (simp [IntKind.wrap_i64]; omega); rintro e w1 ⟨rfl, hb⟩; obtain ⟨hc, hf⟩ := bcell hb)
  all_goals go_wp2_with fail
  all_goals go_ret
  · exact ⟨ret_string (join1 n _ l (by first | rfl | (congr 1; omega) | simp) h HL), (((Below.refl _ _).alloc (Nat.le_refl _) _).drew).trans (hb.mono (by simp))⟩
  · exact ⟨ret_string (join1 n _ l (by first | rfl | (congr 1; omega) | simp) h HL), (((Below.refl _ _).alloc (Nat.le_refl _) _).drew).trans (hb.mono (by simp))⟩
  · refine ⟨ret_string (join1 n _ l (by first | rfl | (congr 1; omega) | simp) h HL), ?_⟩
    have hb0 := (Below.refl w.heap.size w).drew.trans hb
    exact hb0.alloc hb0.size _
theorem refNumber_any : ∀ (n : Nat) (m : Int) (w : World), m = (n : Int) → n ≤ 268435455 →
    Calls Tryz.prog 99 #[.int .i64 m] w fun e w' => e = .returned (.string ⟨(Lk.wire n).toArray⟩) ∧ Below w.heap.size w w' := by
  intro n
  induction n using Nat.strongRecOn with
  | _ n ih =>
    intro m w hm hn
    subst hm
    by_cases h : n < 128
    · exact refNumber_small n h w
    · exact refNumber_big n (by omega) hn w (hide fun m w hm => ih (n / 128) (by omega) m w hm (by omega))
end Go.Proofs.YtbkpdapagfjmmaaGreatDoor

namespace Go.Proofs.YtbkpdapagfjmmaaGreatDoor
open Go.RowKit
end Go.Proofs.YtbkpdapagfjmmaaGreatDoor
