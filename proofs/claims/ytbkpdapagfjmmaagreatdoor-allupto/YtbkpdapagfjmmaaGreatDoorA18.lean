import Derived.Test.YtbkpdapagfjmmaaGreatDoorA16
import Derived.Test.YtbkpdapagfjmmaaGreatDoorA11
import Derived.Test.YtbkpdapagfjmmaaGreatDoorA12
import Derived.ArgAppend
import Derived.Lib.AppendZeros
import Derived.Test.YtbkpdapagfjmmaaGreatDoorA19
import Derived.BigQuiet
import Derived.BigRegion
set_option linter.unusedVariables false
set_option maxRecDepth 100000
set_option maxHeartbeats 16000000
namespace Go.Proofs.YtbkpdapagfjmmaaGreatDoor
open Go.RowKit
theorem sN (b : Nat) (s t : ByteArray) (l : Lk.Bs) (f : Int) (w : World) (hs : f = 0 -> s.data.toList = l ∧ l.length <= 72) (ht : t.size <= 2 ^ 39) (hI : Is w b 54 [.string s, .int .i64 f]) :
 Calls Tryz.prog 21 #[.pointer (some ⟨b, 0, none⟩), .string t] w fun e w' =>
  ∃ v, e = .returned (.tuple #[v, .int .i64 (Lk.fU l f t.data.toList)])
   ∧ w'.ownsRow w.heap.size 66 3 v (Lk.bC l f t.data.toList).length (aZ (Lk.bC l f t.data.toList))
   ∧ (∃ s' : ByteArray, Is w' b 54 [.string s', .int .i64 (Lk.fU l f t.data.toList)] ∧ (Lk.fU l f t.data.toList = 0 -> s'.data.toList = Lk.jK l f t.data.toList))
   ∧ Turns b w w' := by
 unfold Lk.fU Lk.bC Lk.jK
 by_cases hf : f = 0
 . subst hf
   obtain ⟨rfl, hl⟩ := hs rfl
   simp only [if_true]
   refine (F8 b s t w (by rw [af]; omega) hI).mono ?_
   rintro e w' ⟨v, rfl, ho, ⟨R, hI', hR⟩, hT⟩
   exact ⟨v, rfl, ho, ⟨R, hI', fun h => hR (by omega)⟩, hT⟩
 . simp only [if_neg hf]
   refine (Cf b s t f w hf hI).mono ?_
   rintro e w' ⟨rfl, n, rfl⟩
   exact ⟨_, rfl, World.ownsRow_nil _ _ _ _, ⟨s, hI.drewN n, fun h => absurd h hf⟩, (Turns.refl _ _).drewN n⟩
def Pairs (w : World) (r s : Nat) : Prop := ∃ (t R : ByteArray) (f : Int), Is w r 85 [.string t, .int .i64 0, .int .i64 f] ∧ Is w s 54 [.string R, .int .i64 f] ∧ (f = 0 -> R.data.toList = t.data.toList ∧ t.size <= 72)
theorem Pairs.grown {w w' : World} {r s : Nat} (h : Pairs w r s) {row : Option Nat} (hg : w.grownBy w' row) (h1 : some r ≠ row) (h2 : some s ≠ row) : Pairs w' r s := by
 obtain ⟨t, R, f, a, b, c⟩ := h
 exact ⟨t, R, f, a.grown hg h1, b.grown hg h2, c⟩
structure Rig (B M gR gS cR cS : Nat) (pv : Value) (r0 r1 s0 s1 : Nat) (w : World) : Prop where
 made : Is w M 132 [.slice (some ⟨gR, 0, none⟩) 2 cR, .slice (some ⟨gS, 0, none⟩) 2 cS, gQ, gQ, gQ, gQ, pv]
 KY : ∃ t, Is w gR 133 (ptr r0 :: ptr r1 :: t)
 Pm : ∃ t, Is w gS 52 (ptr s0 :: ptr s1 :: t)
 p0 : Pairs w r0 s0
 p1 : Pairs w r1 s1
 ner : r0 ≠ r1
 nes : s0 ≠ s1
 hM : B <= M
 hR : B <= gR
 hS : B <= gS
 h0 : B <= r0 ∧ B <= s0
 h1 : B <= r1 ∧ B <= s1
 cR2 : 2 <= cR
 cS2 : 2 <= cS
theorem LZ : (Tryz.prog.info? 9).map (fun i => (i.zero, i.size, i.bytes)) = some (some (.string ⟨#[]⟩), 1, 16) := by kernel_rfl
def nY (w : World) (v : Value) (l : List Lk.Bs) : Prop :=
 (l = [] ∧ v = .slice none 0 0) ∨ ∃ g off cap cur, v = .slice (some ⟨g, off, none⟩) l.length cap ∧ Is w g 9 cur ∧ l.length <= cap ∧ cap <= maxLen ∧ off + cap <= cur.length ∧ ∀ (i : Nat) (x : Lk.Bs), l[i]? = some x -> cur[off + i]? = some (.string (bs x))
theorem nY.nil (w : World) : nY w gQ [] := .inl ⟨rfl, rfl⟩
theorem nY.form {w : World} {v : Value} {l : List Lk.Bs} (h : nY w v l) : ∃ a cap, v = .slice a l.length cap := by
 rcases h with ⟨rfl, rfl⟩ | ⟨g, off, cap, cur, rfl, _⟩
 . exact ⟨_, _, rfl⟩
 . exact ⟨_, _, rfl⟩
theorem nY.lt {w : World} {v : Value} {l : List Lk.Bs} (h : nY w v l) {i : Nat} (hi : v.ownBlock = some i) : i < w.heap.size := by
 rcases h with ⟨rfl, rfl⟩ | ⟨g, off, cap, cur, rfl, hI, _⟩
 . cases hi
 . cases hi
   exact hI.lt
theorem nY.only {S : Nat -> Prop} {w w' : World} {v : Value} {l : List Lk.Bs} (h : nY w v l) (k : Only S w w') (hn : ∀ i, v.ownBlock = some i -> ¬ S i) : nY w' v l := by
 rcases h with ⟨rfl, rfl⟩ | ⟨g, off, cap, cur, rfl, hI, h⟩
 . exact .inl ⟨rfl, rfl⟩
 . exact .inr ⟨g, off, cap, cur, rfl, hI.only k (hn g rfl), h⟩
theorem nY.ne {w : World} {v : Value} {l : List Lk.Bs} {b : Nat} {T : TypeId} {cs : List Value} (h : nY w v l) (h' : Is w b T cs) (hT : T ≠ 9) : some b ≠ v.ownBlock := by
 rcases h with ⟨rfl, rfl⟩ | ⟨g, off, cap, cur, rfl, hI, _⟩
 . intro e; cases e
 . intro e
   have e : b = g := by simpa [Value.ownBlock] using e
   exact h'.ne hI hT e
theorem nY.head {w : World} {v : Value} {x : Lk.Bs} {l : List Lk.Bs} (h : nY w v (x :: l)) : ∃ g off cap, v = .slice (some ⟨g, off, none⟩) (l.length + 1) cap ∧ g < w.heap.size ∧ l.length + 1 <= cap ∧ cap <= maxLen ∧ w.cell? ⟨g, off, none⟩ = some (.string (bs x)) ∧ nY w (.slice (some ⟨g, off + 1, none⟩) l.length (cap - 1)) l := by
 rcases h with ⟨h0, _⟩ | ⟨g, off, cap, cur, rfl, hI, h1, h2, h3, h4⟩
 . cases h0
 . simp only [List.length_cons] at h1
   refine ⟨g, off, cap, rfl, hI.lt, h1, h2, ?_, .inr ⟨g, off + 1, cap - 1, cur, rfl, hI, by omega, by omega, by omega, fun i y hy => ?_⟩⟩
   . rw [hI.cell]
     exact h4 0 x rfl
   . have := h4 (i + 1) y (by simpa using hy)
     rw [<- this]
     congr 1
     omega
def mO (l : List Lk.Bs) : List Value := l.map fun x => .string (bs x)
theorem nY.Ol {w : World} {B : Nat} {v : Value} {l : List Lk.Bs} (h : w.ownsRow B 9 1 v l.length (mO l)) : nY w v l := by
 rcases h.2 with ⟨rfl, h0⟩ | ⟨g, cap, cur, rfl, hB, hg, hn, hc, hs, ht⟩
 . exact .inl ⟨List.eq_nil_of_length_eq_zero h0, rfl⟩
 . have hI : Is w g 9 cur.toList := by unfold Is; simpa using hg
   refine .inr ⟨g, 0, cap, cur.toList, rfl, hI, hn, hc, ?_, fun i x hx => ?_⟩
   . rw [Array.length_toList]
     omega
   . have hi : i < l.length := (List.getElem?_eq_some_iff.1 hx).1
     have e : (cur.toList.take (l.length * 1))[i]? = (mO l)[i]? := by rw [ht]
     rw [List.getElem?_take_of_lt (by omega)] at e
     rw [Nat.zero_add, e]
     unfold mO
     rw [List.getElem?_map, hx]
     rfl
theorem nY.push {w : World} {v : Value} {l : List Lk.Bs} (h : nY w v l) (x : Lk.Bs) (a : Addr) (ha : w.cell? a = some (.string (bs x))) (hn : l.length <= 2 ^ 42) (ty : TypeId) :
 ∃ v' w', (Builtin.append_ #[31, 31] ty #[v, .slice (some a) 1 1]).run Tryz.prog w = .ok v' w' ∧ nY w' v' (l ++ [x]) ∧ (v'.ownBlock = v.ownBlock ∨ ∀ k, v'.ownBlock = some k -> w.heap.size <= k) ∧ Only (fun i => v.ownBlock = some i) w w' := by
 obtain ⟨i, hi, hz0, hz1, hz2⟩ := info_parts LZ
 have hadd : ∀ (b : Addr), b.add 0 = b := fun b => by simp [Addr.add]
 have hnews : ∀ j u, [(.string (bs x) : Value)][j]? = some u -> w.cell? (a.add j) = some u := fun j u hj => by
  cases j with
  | zero => rw [hadd, ha]; exact hj
  | succ j => cases hj
 have hmx : l.length + 1 <= maxLen := by unfold maxLen; omega
 have hone : ∀ u ∈ [(.string (bs x) : Value)], u.oneCell' = true := fun u hu => by simp at hu; subst hu; rfl
 have htx : mO l ++ [.string (bs x)] = mO (l ++ [x]) := by simp [mO]
 rcases h with ⟨rfl, rfl⟩ | ⟨g, off, cap, cur, rfl, hI, h1, h2, h3, h4⟩
 . obtain ⟨v', w', hr, ho, hg, _⟩ := run_append_own (P := Tryz.prog) w w.heap.size 31 ty 9 i (.string ⟨#[]⟩) 1 16 Tryz.underlying31 hi hz0 hz1 hz2 rfl (by omega) (.slice none 0 0) 0 [] (World.ownsRow_nil _ _ _ _) a 1 1 [.string (bs x)] rfl hnews hone (by omega) (by omega) (Nat.le_refl _)
   refine ⟨v', w', hr, nY.Ol (B := w.heap.size) (l := [] ++ [x]) ho, .inr (fun k hk => (ho.lt k hk).1), ?_⟩
   exact (Only.gV hg).mono (fun i hi => by cases hi)
 . by_cases hroom : l.length + 1 <= cap
   . have hlt : off + l.length < cur.length := by omega
     have hc0 : w.cell? ⟨g, off + l.length, none⟩ = some cur[off + l.length] := by rw [hI.cell, List.getElem?_eq_getElem hlt]
     have hr := run_append_room_cells (P := Tryz.prog) w 31 ty 9 i Tryz.underlying31 hi g off l.length cap a 1 1 [.string (bs x)] (by rw [hz1]; rfl) hnews hone hroom
      (fun j hj => by
       have : j = 0 := by simpa using hj
       subst this
       rw [hz1, Nat.mul_one, Nat.add_zero, hc0]
       rfl)
      (fun j _ => hI.free _)
     rw [hz1, Nat.mul_one] at hr
     have hset : w.setCells g (off + l.length) [.string (bs x)] = w.setCell ⟨g, off + l.length, none⟩ (.string (bs x)) := rfl
     rw [hset] at hr
     refine ⟨_, _, hr, .inr ⟨g, off, cap, cur.set (off + l.length) (.string (bs x)), by simp, hI.set _ _, by simpa using hroom, h2, by simpa using h3, fun j y hj => ?_⟩, .inl rfl, (Only.refl _ w).set g _ _ (fun _ => rfl)⟩
     rw [List.getElem?_append] at hj
     split at hj
     . rename_i hjl
       rw [List.getElem?_set_ne (by omega)]
       exact h4 j y hj
     . rename_i hjl
       have : j = l.length := by
        have := (List.getElem?_eq_some_iff.1 hj).1
        simp at this
        omega
       subst this
       simp at hj
       subst hj
       rw [List.getElem?_set_self hlt]
   . have holds : ∀ j u, (mO l)[j]? = some u -> w.cell? ((⟨g, off, none⟩ : Addr).add j) = some u := fun j u hj => by
      unfold mO at hj
      rw [List.getElem?_map] at hj
      cases hx : l[j]? with
      | none => rw [hx] at hj; cases hj
      | some y =>
        rw [hx] at hj
        cases hj
        have e : (⟨g, off, none⟩ : Addr).add j = ⟨g, off + j, none⟩ := by unfold Addr.add; split <;> simp_all
        rw [e, hI.cell]
        exact h4 j y hx
     obtain ⟨v', w', hr, ho, hg⟩ := run_append_arg_grows (P := Tryz.prog) w 31 ty 9 i (.string ⟨#[]⟩) 1 16 Tryz.underlying31 hi hz0 hz1 hz2 rfl (by omega) ⟨g, off, none⟩ l.length cap (mO l) (by simp [mO]) holds a 1 1 [.string (bs x)] rfl hnews (by omega) hmx (by omega)
     rw [htx] at ho
     refine ⟨v', w', hr, nY.Ol (B := w.heap.size) (by simpa using ho), .inr (fun k hk => (ho.lt k hk).1), ?_⟩
     exact (Only.gV hg).mono (fun i hi => by cases hi)
def rwV (o : Lk.Ow) : List Value := [.int .i64 (o.id : Int), .string (bs o.left), .int .i64 (o.cr : Int), .bool o.done]
def L6 (l : List Lk.Ow) : List Value := l.flatMap rwV
def rtV (o : Lk.Ot) : List Value := [.int .i64 (o.id : Int), .int .i64 (o.cr : Int), .int .i64 (o.held : Int), .bool o.opn, .bool o.drp]
def L8 (l : List Lk.Ot) : List Value := l.flatMap rtV
theorem L9 {α : Type} (f : α -> List Value) (n : Nat) (hf : ∀ x, (f x).length = n) (l : List α) : (l.flatMap f).length = l.length * n := by
 induction l with
 | nil => simp
 | cons x l ih => simp only [List.flatMap_cons, List.length_append, hf, ih, List.length_cons]; rw [Nat.add_mul, Nat.one_mul]; omega
theorem Pn {α : Type} (f : α -> List Value) (n : Nat) (hf : ∀ x, (f x).length = n) (l : List α) : ∀ (i j : Nat) (x : α), l[i]? = some x -> j < n -> (l.flatMap f)[i * n + j]? = (f x)[j]? := by
 induction l with
 | nil => intro i j x h; simp at h
 | cons y l ih =>
   intro i j x h hj
   simp only [List.flatMap_cons]
   cases i with
   | zero =>
     simp at h
     subst h
     rw [Nat.zero_mul, Nat.zero_add, List.getElem?_append_left (by rw [hf]; exact hj)]
   | succ i =>
     have := ih i j x (by simpa using h) hj
     rw [List.getElem?_append_right (by rw [hf, Nat.add_mul, Nat.one_mul]; omega), hf, <- this]
     congr 1
     rw [Nat.add_mul, Nat.one_mul]
     omega
theorem Mc {α : Type} (f : α -> List Value) (n : Nat) (hf : ∀ x, (f x).length = n) (l : List α) : ∀ (i j : Nat) (x y : α) (v : Value), l[i]? = some x -> j < n -> (f x).set j v = f y -> (l.flatMap f).set (i * n + j) v = (l.set i y).flatMap f := by
 induction l with
 | nil => intro i j x y v h; simp at h
 | cons z l ih =>
   intro i j x y v h hj hv
   simp only [List.flatMap_cons]
   cases i with
   | zero =>
     simp at h
     subst h
     rw [Nat.zero_mul, Nat.zero_add, List.set_append_left _ _ (by rw [hf]; exact hj), hv]
     simp
   | succ i =>
     have := ih i j x y v (by simpa using h) hj hv
     rw [List.set_append_right _ _ (by rw [hf, Nat.add_mul, Nat.one_mul]; omega), hf]
     have e : (i + 1) * n + j - n = i * n + j := by rw [Nat.add_mul, Nat.one_mul]; omega
     rw [e, this]
     simp
theorem ed {α : Type} {w : World} {B n : Nat} {T : TypeId} {v : Value} {l : List α} (f : α -> List Value) (hf : ∀ x, (f x).length = n) (h : w.ownsRow B T n v l.length (l.flatMap f)) {i : Nat} {x : α} (hx : l[i]? = some x) :
 ∃ g cap, v = .slice (some ⟨g, 0, none⟩) l.length cap ∧ B <= g ∧ g < w.heap.size ∧ l.length <= cap ∧ (∀ j, j < n -> w.cell? ⟨g, i * n + j, none⟩ = (f x)[j]?) ∧ ∀ j, w.frozen? ⟨g, j, none⟩ = false := by
 have hi : i < l.length := (List.getElem?_eq_some_iff.1 hx).1
 rcases h.2 with ⟨_, h0⟩ | ⟨g, cap, cur, rfl, hB, hg, hn, hc, hs, ht⟩
 . omega
 . have hI : Is w g T cur.toList := by unfold Is; simpa using hg
   refine ⟨g, cap, rfl, hB, hI.lt, hn, fun j hj => ?_, fun j => hI.free j⟩
   have hlt : i * n + j < l.length * n := by
    have : (i + 1) * n <= l.length * n := Nat.mul_le_mul_right _ (by omega)
    rw [Nat.add_mul, Nat.one_mul] at this
    omega
   rw [hI.cell, <- Pn f n hf l i j x hx hj, <- ht, List.getElem?_take_of_lt hlt]
theorem vX {α : Type} {w : World} {B n g cap : Nat} {T : TypeId} {l : List α} (f : α -> List Value) (hf : ∀ x, (f x).length = n) (h : w.ownsRow B T n (.slice (some ⟨g, 0, none⟩) l.length cap) l.length (l.flatMap f)) {i j : Nat} {x y : α} {v : Value} (hx : l[i]? = some x) (hj : j < n) (hv : (f x).set j v = f y) :
 (w.setCell ⟨g, i * n + j, none⟩ v).ownsRow B T n (.slice (some ⟨g, 0, none⟩) l.length cap) (l.set i y).length ((l.set i y).flatMap f) := by
 rcases h.2 with ⟨h0, _⟩ | ⟨g', cap', cur, h0, h1, h2, h3, h4, h5, h6⟩
 . cases h0
 . cases h0
   have hI : Is w g T cur.toList := by unfold Is; simpa using h2
   have hI' := hI.set (i * n + j) v
   unfold Is at hI'
   refine ⟨L9 f n hf _, .inr ⟨g, cap, (cur.toList.set (i * n + j) v).toArray, by simp, h1, hI', by simpa using h3, h4, by simpa using h5, ?_⟩⟩
   rw [List.length_set, <- Mc f n hf l i j x y v hx hj hv, <- h6, List.take_set]
structure RP where
 ob : Nat
 ib : Nat
 rb : Nat
 vo : Value
 vi : Value
 rv : Value
 wv : Value
 tv : Value
def jo (e : Lk.En) (p : RP) : List Value := [.int .i64 (e.side : Int), .int .i64 (e.win : Int), ptr p.ob, ptr p.ib, ptr p.rb, p.rv, p.wv, p.tv, .int .i64 (e.all : Int), .int .i64 (e.room : Int), .int .i64 (e.turn : Int), .bool e.iH, .bool e.oK, .int .i64 (e.down : Int)]
def aI (b : Nat) (p : RP) (i : Nat) : Prop := i = b ∨ i = p.ob ∨ i = p.ib ∨ i = p.rb ∨ p.vo.ownBlock = some i ∨ p.vi.ownBlock = some i ∨ p.rv.ownBlock = some i ∨ p.wv.ownBlock = some i ∨ p.tv.ownBlock = some i
structure aT (κ : Prop) (w : World) (b : Nat) (e : Lk.En) (p : RP) : Prop where
 blk : Is w b 200 (jo e p)
 out : RTab w p.ob 100 e.out p.vo
 inn : RTab w p.ib 100 e.inn p.vi
 rd : ∃ s f, Is w p.rb 54 [.string s, .int .i64 f] ∧ (κ -> e.down = 0 -> f = 0 ∧ s.data.toList = e.rest)
 row : nY w p.rv e.row
 own : w.ownsRow 0 258 4 p.wv e.own.length (L6 e.own)
 oth : w.ownsRow 0 265 5 p.tv e.oth.length (L8 e.oth)
 ne : p.ob ≠ p.ib
 nv : p.vo.ownBlock = none ∨ p.vo.ownBlock ≠ p.vi.ownBlock
section
variable {κ : Prop} {w w' : World} {b : Nat} {e e' : Lk.En} {p : RP}
theorem aT.lt (h : aT κ w b e p) {i : Nat} (hi : aI b p i) : i < w.heap.size := by
 rcases hi with rfl | rfl | rfl | rfl | hi | hi | hi | hi | hi
 . exact h.blk.lt
 . exact h.out.blk.lt
 . exact h.inn.blk.lt
 . obtain ⟨s, f, h1, _⟩ := h.rd
   exact h1.lt
 . exact (h.out.own.lt i hi).2
 . exact (h.inn.own.lt i hi).2
 . exact h.row.lt hi
 . exact (h.own.lt i hi).2
 . exact (h.oth.lt i hi).2
theorem RTab.only {S : Nat -> Prop} {t B : Nat} {L : List Lk.Hd} {v : Value} (h : RTab w t B L v) (k : Only S w w') (h1 : ¬ S t) (h2 : ∀ i, v.ownBlock = some i -> ¬ S i) : RTab w' t B L v :=
 ⟨h.blk.only k h1, ag h.own k h2, h.le, h.hB⟩
theorem aT.only {S : Nat -> Prop} (h : aT κ w b e p) (k : Only S w w') (hn : ∀ i, aI b p i -> ¬ S i) : aT κ w' b e p := by
 obtain ⟨s, f, h1, h2⟩ := h.rd
 have f1 : ∀ i, p.vo.ownBlock = some i -> aI b p i := fun i hi => .inr (.inr (.inr (.inr (.inl hi))))
 have f2 : ∀ i, p.vi.ownBlock = some i -> aI b p i := fun i hi => .inr (.inr (.inr (.inr (.inr (.inl hi)))))
 have f3 : ∀ i, p.rv.ownBlock = some i -> aI b p i := fun i hi => .inr (.inr (.inr (.inr (.inr (.inr (.inl hi))))))
 have f4 : ∀ i, p.wv.ownBlock = some i -> aI b p i := fun i hi => .inr (.inr (.inr (.inr (.inr (.inr (.inr (.inl hi)))))))
 have f5 : ∀ i, p.tv.ownBlock = some i -> aI b p i := fun i hi => .inr (.inr (.inr (.inr (.inr (.inr (.inr (.inr hi)))))))
 exact ⟨h.blk.only k (hn _ (.inl rfl)), h.out.only k (hn _ (.inr (.inl rfl))) (fun i hi => hn i (f1 i hi)), h.inn.only k (hn _ (.inr (.inr (.inl rfl)))) (fun i hi => hn i (f2 i hi)), ⟨s, f, h1.only k (hn _ (.inr (.inr (.inr (.inl rfl))))), h2⟩, h.row.only k (fun i hi => hn i (f3 i hi)), ag h.own k (fun i hi => hn i (f4 i hi)), ag h.oth k (fun i hi => hn i (f5 i hi)), h.ne, h.nv⟩
theorem aT.below (h : aT κ w b e p) (k : Below w.heap.size w w') : aT κ w' b e p := h.only (Only.of_below k (fun _ => False)) (fun _ _ x => x)
theorem aT.apart (h : aT κ w b e p) : b ≠ p.ob ∧ b ≠ p.ib ∧ b ≠ p.rb ∧ (∀ i, p.vo.ownBlock = some i -> i ≠ b) ∧ (∀ i, p.vi.ownBlock = some i -> i ≠ b) ∧ (∀ i, p.rv.ownBlock = some i -> i ≠ b) ∧ (∀ i, p.wv.ownBlock = some i -> i ≠ b) ∧ (∀ i, p.tv.ownBlock = some i -> i ≠ b) := by
 obtain ⟨s, f, h1, _⟩ := h.rd
 exact ⟨h.blk.ne h.out.blk (nbq rfl), h.blk.ne h.inn.blk (nbq rfl), h.blk.ne h1 (nbq rfl), fun i hi e => own_ne h.out.own h.blk (nbq rfl) (by rw [hi, e]), fun i hi e => own_ne h.inn.own h.blk (nbq rfl) (by rw [hi, e]), fun i hi e => h.row.ne h.blk (nbq rfl) (by rw [hi, e]), fun i hi e => own_ne h.own h.blk (nbq rfl) (by rw [hi, e]), fun i hi e => own_ne h.oth h.blk (nbq rfl) (by rw [hi, e])⟩
theorem aT.cells (h : aT κ w b e p) (hI : Is w' b 200 (jo e' p)) (hO : Only (· = b) w w') (h1 : e'.out = e.out) (h2 : e'.inn = e.inn) (h3 : e'.row = e.row) (h4 : e'.own = e.own) (h5 : e'.oth = e.oth) (h6 : e'.down = 0 -> e.down = 0 ∧ e'.rest = e.rest) : aT κ w' b e' p := by
 obtain ⟨a1, a2, a3, a4, a5, a6, a7, a8⟩ := h.apart
 obtain ⟨s, f, r1, r2⟩ := h.rd
 refine ⟨hI, by rw [h1]; exact h.out.only hO (Ne.symm a1) a4, by rw [h2]; exact h.inn.only hO (Ne.symm a2) a5, ⟨s, f, r1.only hO (Ne.symm a3), fun hk hd => ?_⟩, by rw [h3]; exact h.row.only hO a6, by rw [h4]; exact ag h.own hO a7, by rw [h5]; exact ag h.oth hO a8, h.ne, h.nv⟩
 obtain ⟨g1, g2⟩ := h6 hd
 rw [g2]
 exact r2 hk g1
theorem aT.set (h : aT κ w b e p) (i : Nat) (v : Value) (hc : (jo e p).set i v = jo e' p) (h1 : e'.out = e.out) (h2 : e'.inn = e.inn) (h3 : e'.row = e.row) (h4 : e'.own = e.own) (h5 : e'.oth = e.oth) (h6 : e'.down = 0 -> e.down = 0 ∧ e'.rest = e.rest) : aT κ (w.setCell ⟨b, i, none⟩ v) b e' p := by
 have hI := h.blk.set i v
 rw [hc] at hI
 exact h.cells hI ((Only.refl _ w).set b i v (fun _ => rfl)) h1 h2 h3 h4 h5 h6
end
variable {κ : Prop}
def aj (κ : Prop) (w : World) (b : Nat) (p : RP) (e' : Lk.En) (w' : World) : Prop := ∃ p', aT κ w' b e' p' ∧ (∀ i, aI b p' i -> aI b p i ∨ w.heap.size <= i) ∧ Only (aI b p) w w'
theorem aj.same {w : World} {b : Nat} {e : Lk.En} {p : RP} (h : aT κ w b e p) : aj κ w b p e w := ⟨p, h, fun _ hi => .inl hi, Only.refl _ _⟩
theorem aj.trans {w w1 w2 : World} {b : Nat} {p p1 : RP} {e2 : Lk.En} (hf : ∀ i, aI b p1 i -> aI b p i ∨ w.heap.size <= i) (hO : Only (aI b p) w w1) (h : aj κ w1 b p1 e2 w2) : aj κ w b p e2 w2 := by
 obtain ⟨p2, h1, h2, h3⟩ := h
 refine ⟨p2, h1, fun i hi => ?_, hO.trans h3 (fun i hi hlt => ?_)⟩
 . rcases h2 i hi with h | h
   . exact hf i h
   . exact .inr (Nat.le_trans hO.size h)
 . rcases hf i hi with h | h
   . exact h
   . omega
theorem aj.before {w w1 w2 : World} {b : Nat} {p : RP} {e2 : Lk.En} (hb : Below w.heap.size w w1) (h : aj κ w1 b p e2 w2) : aj κ w b p e2 w2 := aj.trans (fun _ hi => .inl hi) (Only.of_below hb _) h
theorem aj.after {w w1 w2 : World} {b : Nat} {p : RP} {e2 : Lk.En} (h : aj κ w b p e2 w1) (hb : Below w1.heap.size w1 w2) : aj κ w b p e2 w2 := by
 obtain ⟨p2, h1, h2, h3⟩ := h
 exact ⟨p2, h1.below hb, h2, h3.below hb⟩
def ixO : Option Nat -> Int
 | some i => (i : Int)
 | none => -1
theorem aT.c {w : World} {b : Nat} {e : Lk.En} {p : RP} (h : aT κ w b e p) (i : Nat) : w.cell? ⟨b, i, none⟩ = (jo e p)[i]? := h.blk.cell i
theorem qY (b : Nat) (e : Lk.En) (p : RP) (k : Int) (w : World) (h : aT κ w b e p) (hl : e.own.length <= 2 ^ 40) :
 Calls Tryz.prog 164 #[.pointer (some ⟨b, 0, none⟩), .int .i64 k] w fun r w' => r = .returned (.int .i64 (ixO (Lk.bK e.own k))) ∧ w' = w := by
 have hbl := h.blk.lt
 have c6 : w.cell? ⟨b, 6, none⟩ = some p.wv := h.blk.cell 6
 obtain ⟨va, vc, hv⟩ := aJ h.own
 rw [hv] at c6
 have HV := hide hv
 have HO := hide h.own
 clear h hv
 go_enter Tryz.func164, Tryz.ntmps164
 go_wp2_with fail
 go_loopw [5] (fun u wr => wr = w ∧ ∃ i : Nat, i <= e.own.length ∧ u = .int .i64 i ∧ Hid (∀ j o, j < i -> e.own[j]? = some o -> (o.id : Int) ≠ k)) (fun u _ => e.own.length - (intOf u).toNat)
 case atStart => exact ⟨rfl, 0, Nat.zero_le _, rfl, fun j o hj => by omega⟩
 case round =>
  obtain ⟨rfl, i, hi, rfl, HN⟩ := hrel
  by_cases hlt : i < e.own.length
  . have hlt' : (i : Int) < e.own.length := by omega
    obtain ⟨g, cap, hg, _, hgl, hcap, hc, _⟩ := ed rwV (fun _ => rfl) (uh HO) (List.getElem?_eq_getElem hlt)
    obtain ⟨rfl, rfl⟩ : va = some ⟨g, 0, none⟩ ∧ vc = cap := by
     rw [uh HV] at hg
     injection hg with k1 k2 k3
     exact ⟨k1, k3⟩
    have x0 : wr.cell? ⟨g, i * 4, none⟩ = some (.int .i64 (e.own[i].id : Int)) := hc 0 (by omega)
    by_cases hk : (e.own[i].id : Int) = k
    . have HF : Hid (Lk.bK e.own k = some i) := by
       unfold Lk.bK
       rw [List.findIdx?_eq_some_iff_getElem]
       refine ⟨hlt, by simpa using hk, fun j hj => ?_⟩
       have := uh HN j e.own[j] hj (List.getElem?_eq_getElem (by omega))
       simpa using this
      have hk' : ((e.own[i].id : Int) == k) = true := by simpa using hk
      generalize (e.own[i].id : Int) = ID at *
      clear hc hg hk
      go_wp2_with fail
      go_ret
      exact ⟨by rw [uh HF]; rfl, rfl⟩
    . have hk' : ((e.own[i].id : Int) == k) = false := by simpa using hk
      have HN2 : Hid (∀ j o, j < i + 1 -> e.own[j]? = some o -> (o.id : Int) ≠ k) := fun j o hj ho => by
       by_cases hji : j = i
       . subst hji
         rw [List.getElem?_eq_getElem hlt] at ho
         cases ho
         exact hk
       . exact uh HN j o (by omega) ho
      generalize (e.own[i].id : Int) = ID at *
      clear hc hg hk HN
      go_wp2_with fail
      go_roundw
      case rel => exact ⟨by trivial, i + 1, by omega, by go_num, uh HN2⟩
      case measure => simp [intOf]; omega
  . have hlt' : ¬ (i : Int) < e.own.length := by omega
    have HF : Hid (Lk.bK e.own k = none) := by
     unfold Lk.bK
     rw [List.findIdx?_eq_none_iff]
     intro o ho
     obtain ⟨j, hj⟩ := List.getElem?_of_mem ho
     have := uh HN j o (by have := (List.getElem?_eq_some_iff.1 hj).1; omega) hj
     simpa using this
    clear HN
    go_wp2_with fail
    go_ret
    exact ⟨by rw [uh HF]; rfl, rfl⟩
theorem lX (b : Nat) (e : Lk.En) (p : RP) (k : Int) (w : World) (h : aT κ w b e p) (hl : e.oth.length <= 2 ^ 40) :
 Calls Tryz.prog 163 #[.pointer (some ⟨b, 0, none⟩), .int .i64 k] w fun r w' => r = .returned (.int .i64 (ixO (Lk.bM e.oth k))) ∧ w' = w := by
 have hbl := h.blk.lt
 have c6 : w.cell? ⟨b, 7, none⟩ = some p.tv := h.blk.cell 7
 obtain ⟨va, vc, hv⟩ := aJ h.oth
 rw [hv] at c6
 have HV := hide hv
 have HO := hide h.oth
 clear h hv
 go_enter Tryz.func163, Tryz.ntmps163
 go_wp2_with fail
 go_loopw [5] (fun u wr => wr = w ∧ ∃ i : Nat, i <= e.oth.length ∧ u = .int .i64 i ∧ Hid (∀ j o, j < i -> e.oth[j]? = some o -> (o.id : Int) ≠ k)) (fun u _ => e.oth.length - (intOf u).toNat)
 case atStart => exact ⟨rfl, 0, Nat.zero_le _, rfl, fun j o hj => by omega⟩
 case round =>
  obtain ⟨rfl, i, hi, rfl, HN⟩ := hrel
  by_cases hlt : i < e.oth.length
  . have hlt' : (i : Int) < e.oth.length := by omega
    obtain ⟨g, cap, hg, _, hgl, hcap, hc, _⟩ := ed rtV (fun _ => rfl) (uh HO) (List.getElem?_eq_getElem hlt)
    obtain ⟨rfl, rfl⟩ : va = some ⟨g, 0, none⟩ ∧ vc = cap := by
     rw [uh HV] at hg
     injection hg with k1 k2 k3
     exact ⟨k1, k3⟩
    have x0 : wr.cell? ⟨g, i * 5, none⟩ = some (.int .i64 (e.oth[i].id : Int)) := hc 0 (by omega)
    by_cases hk : (e.oth[i].id : Int) = k
    . have HF : Hid (Lk.bM e.oth k = some i) := by
       unfold Lk.bM
       rw [List.findIdx?_eq_some_iff_getElem]
       refine ⟨hlt, by simpa using hk, fun j hj => ?_⟩
       have := uh HN j e.oth[j] hj (List.getElem?_eq_getElem (by omega))
       simpa using this
      have hk' : ((e.oth[i].id : Int) == k) = true := by simpa using hk
      generalize (e.oth[i].id : Int) = ID at *
      clear hc hg hk
      go_wp2_with fail
      go_ret
      exact ⟨by rw [uh HF]; rfl, rfl⟩
    . have hk' : ((e.oth[i].id : Int) == k) = false := by simpa using hk
      have HN2 : Hid (∀ j o, j < i + 1 -> e.oth[j]? = some o -> (o.id : Int) ≠ k) := fun j o hj ho => by
       by_cases hji : j = i
       . subst hji
         rw [List.getElem?_eq_getElem hlt] at ho
         cases ho
         exact hk
       . exact uh HN j o (by omega) ho
      generalize (e.oth[i].id : Int) = ID at *
      clear hc hg hk HN
      go_wp2_with fail
      go_roundw
      case rel => exact ⟨by trivial, i + 1, by omega, by go_num, uh HN2⟩
      case measure => simp [intOf]; omega
  . have hlt' : ¬ (i : Int) < e.oth.length := by omega
    have HF : Hid (Lk.bM e.oth k = none) := by
     unfold Lk.bM
     rw [List.findIdx?_eq_none_iff]
     intro o ho
     obtain ⟨j, hj⟩ := List.getElem?_of_mem ho
     have := uh HN j o (by have := (List.getElem?_eq_some_iff.1 hj).1; omega) hj
     simpa using this
    clear HN
    go_wp2_with fail
    go_ret
    exact ⟨by rw [uh HF]; rfl, rfl⟩
theorem vZ (k st : Nat) (d : Lk.Bs) (w : World) (h : Lk.Good k st d) :
 Calls Tryz.prog 56 #[.agg #[.int .i64 (k : Int), .int .i64 (st : Int), .string (bs d)]] w fun r w' => r = .returned (.tuple #[.string (bs (Lk.packed k st d)), .int .i64 0]) ∧ Below w.heap.size w w' := by
 have e : (bs d).data.toList = d := by simp [bs]
 have hl := ax d
 have := sQ k st (bs d) w h.k7 h.Fv (by have := h.len; omega) h.stream (by rw [hl]; exact h.length) (by rw [e]; exact h.payload)
 rw [e] at this
 exact this
theorem iM {w : World} {B : Nat} {e : TypeId} {size n i : Nat} {v : Value} {xs : List Value} (h : w.ownsRow B e size v n xs) (hi : v.ownBlock = some i) : ∃ cs, Is w i e cs := by
 rcases h.2 with ⟨rfl, _⟩ | ⟨g, cap, cur, rfl, _, hg, _⟩
 . cases hi
 . cases hi
   exact ⟨cur.toList, by unfold Is; simpa using hg⟩
theorem nY.is {w : World} {v : Value} {l : List Lk.Bs} {i : Nat} (h : nY w v l) (hi : v.ownBlock = some i) : ∃ cs, Is w i 9 cs := by
 rcases h with ⟨rfl, rfl⟩ | ⟨g, off, cap, cur, rfl, hI, _⟩
 . cases hi
 . cases hi
   exact ⟨cur, hI⟩
theorem aT.apt {w : World} {b : Nat} {e : Lk.En} {p : RP} (h : aT κ w b e p) {i : Nat} {T : TypeId} {cs : List Value} (hI : Is w i T cs) :
 (T ≠ 200 -> b ≠ i) ∧ (T ≠ 196 -> p.ob ≠ i ∧ p.ib ≠ i) ∧ (T ≠ 54 -> p.rb ≠ i) ∧ (T ≠ 206 -> (∀ j, p.vo.ownBlock = some j -> j ≠ i) ∧ ∀ j, p.vi.ownBlock = some j -> j ≠ i) ∧ (T ≠ 9 -> ∀ j, p.rv.ownBlock = some j -> j ≠ i) ∧ (T ≠ 258 -> ∀ j, p.wv.ownBlock = some j -> j ≠ i) ∧ (T ≠ 265 -> ∀ j, p.tv.ownBlock = some j -> j ≠ i) := by
 obtain ⟨s, f, h1, _⟩ := h.rd
 refine ⟨fun hT => h.blk.ne hI (Ne.symm hT), fun hT => ⟨h.out.blk.ne hI (Ne.symm hT), h.inn.blk.ne hI (Ne.symm hT)⟩, fun hT => h1.ne hI (Ne.symm hT), fun hT => ⟨fun j hj => ?_, fun j hj => ?_⟩, fun hT j hj => ?_, fun hT j hj => ?_, fun hT j hj => ?_⟩
 . obtain ⟨c, hc⟩ := iM h.out.own hj; exact hc.ne hI (Ne.symm hT)
 . obtain ⟨c, hc⟩ := iM h.inn.own hj; exact hc.ne hI (Ne.symm hT)
 . obtain ⟨c, hc⟩ := h.row.is hj; exact hc.ne hI (Ne.symm hT)
 . obtain ⟨c, hc⟩ := iM h.own hj; exact hc.ne hI (Ne.symm hT)
 . obtain ⟨c, hc⟩ := iM h.oth hj; exact hc.ne hI (Ne.symm hT)
theorem aT.pushRow {w w' : World} {b : Nat} {e : Lk.En} {p : RP} (h : aT κ w b e p) {v' : Value} {l : List Lk.Bs} (hq : nY w' v' l) (hv : v'.ownBlock = p.rv.ownBlock ∨ ∀ k, v'.ownBlock = some k -> w.heap.size <= k) (hO : Only (fun i => p.rv.ownBlock = some i) w w') : aj κ w b p { e with row := l } (w'.setCell ⟨b, 5, none⟩ v') := by
 have hap : ∀ i, p.rv.ownBlock = some i -> b ≠ i ∧ (p.ob ≠ i ∧ p.ib ≠ i) ∧ p.rb ≠ i ∧ ((∀ j, p.vo.ownBlock = some j -> j ≠ i) ∧ ∀ j, p.vi.ownBlock = some j -> j ≠ i) ∧ (∀ j, p.wv.ownBlock = some j -> j ≠ i) ∧ ∀ j, p.tv.ownBlock = some j -> j ≠ i := fun i hi => by
  obtain ⟨cs, hI⟩ := h.row.is hi
  obtain ⟨a1, a2, a3, a4, _, a6, a7⟩ := h.apt hI
  exact ⟨a1 (nbq rfl), a2 (nbq rfl), a3 (nbq rfl), a4 (nbq rfl), a6 (nbq rfl), a7 (nbq rfl)⟩
 have hO2 : Only (fun i => p.rv.ownBlock = some i ∨ i = b) w (w'.setCell ⟨b, 5, none⟩ v') := (hO.mono (fun i hi => .inl hi)).set b 5 v' (fun _ => .inr rfl)
 obtain ⟨c1, c2, c3, c4, c5, c6, c7, c8⟩ := h.apart
 have hn : ∀ i, (∀ j, p.rv.ownBlock = some j -> i ≠ j) -> i ≠ b -> ¬ (p.rv.ownBlock = some i ∨ i = b) := fun i h1 h2 hx => by
  rcases hx with hx | hx
  . exact h1 i hx rfl
  . exact h2 hx
 have hI := (h.blk.only hO (fun hb => (hap b hb).1 rfl)).set 5 v'
 have hbq : ∀ i, v'.ownBlock = some i -> i ≠ b := fun i hi => by
  rcases hv with hv | hv
  . rw [hv] at hi
    exact c6 i hi
  . have := hv i hi
    have := h.blk.lt
    omega
 obtain ⟨s, f, r1, r2⟩ := h.rd
 refine ⟨{ p with rv := v' }, ⟨hI, h.out.only hO2 (hn _ (fun j hj => (hap j hj).2.1.1) (Ne.symm c1)) (fun i hi => hn i (fun j hj => (hap j hj).2.2.2.1.1 i hi) (c4 i hi)), h.inn.only hO2 (hn _ (fun j hj => (hap j hj).2.1.2) (Ne.symm c2)) (fun i hi => hn i (fun j hj => (hap j hj).2.2.2.1.2 i hi) (c5 i hi)), ⟨s, f, r1.only hO2 (hn _ (fun j hj => (hap j hj).2.2.1) (Ne.symm c3)), r2⟩, hq.only ((Only.refl (· = b) w').set b 5 v' (fun _ => rfl)) hbq, ag h.own hO2 (fun i hi => hn i (fun j hj => (hap j hj).2.2.2.2.1 i hi) (c7 i hi)), ag h.oth hO2 (fun i hi => hn i (fun j hj => (hap j hj).2.2.2.2.2 i hi) (c8 i hi)), h.ne, h.nv⟩, fun i hi => ?_, hO2.mono (fun i hi => ?_)⟩
 . rcases hi with hi | hi | hi | hi | hi | hi | hi | hi | hi
   . exact .inl (.inl hi)
   . exact .inl (.inr (.inl hi))
   . exact .inl (.inr (.inr (.inl hi)))
   . exact .inl (.inr (.inr (.inr (.inl hi))))
   . exact .inl (.inr (.inr (.inr (.inr (.inl hi)))))
   . exact .inl (.inr (.inr (.inr (.inr (.inr (.inl hi))))))
   . rcases hv with hv | hv
     . have hi : v'.ownBlock = some i := hi
       rw [hv] at hi
       exact .inl (.inr (.inr (.inr (.inr (.inr (.inr (.inl hi)))))))
     . exact .inr (hv i hi)
   . exact .inl (.inr (.inr (.inr (.inr (.inr (.inr (.inr (.inl hi))))))))
   . exact .inl (.inr (.inr (.inr (.inr (.inr (.inr (.inr (.inr hi))))))))
 . rcases hi with hi | hi
   . exact .inr (.inr (.inr (.inr (.inr (.inr (.inl hi))))))
   . exact .inl hi
theorem fV (b : Nat) (e : Lk.En) (p : RP) (k st : Nat) (d : Lk.Bs) (w : World) (h : aT κ w b e p) (hg : Lk.Good k st d) (hl : e.row.length <= 2 ^ 42) :
 Calls Tryz.prog 162 #[.pointer (some ⟨b, 0, none⟩), .int .i64 (k : Int), .int .i64 (st : Int), .string (bs d)] w fun r w' => r = .returned (.tuple #[]) ∧ aj κ w b p (e.send k st d) w' := by
 have HP := hide (vZ k st d w hg)
 have HE := hide h
 clear h hg
 go_enter Tryz.func162, Tryz.ntmps162
 go_wp2_with fail
 refine (uh HP).mono ?_
 rintro r w1 ⟨rfl, hb1⟩
 have h1 := (uh HE).below hb1
 have h2 := h1.below ((Below.refl w1.heap.size w1).alloc (Nat.le_refl _) (.cells #[.string (bs (Lk.packed k st d))] 9))
 have c5 : w1.cell? ⟨b, 5, none⟩ = some p.rv := h1.blk.cell 5
 have hbl := h1.blk.lt
 have hI := Is.new w1 9 [.string (bs (Lk.packed k st d))]
 obtain ⟨v', w', hr, hq, hv, hO⟩ := h2.row.push (Lk.packed k st d) ⟨w1.heap.size, 0, none⟩ (hI.cell 0) hl 31
 have HPO : Hid (aj κ w b p (e.send k st d) (w'.setCell ⟨b, 5, none⟩ v')) := aj.before (hb1.alloc hb1.size _) (h2.pushRow hq hv hO)
 have hf : w'.frozen? ⟨b, 5, none⟩ = false ∧ w'.cell? ⟨b, 5, none⟩ = some p.rv ∧ b < w'.heap.size := by
  have := h2.blk.only hO (fun hx => (h2.apart.2.2.2.2.2.1 b hx) rfl)
  exact ⟨this.free 5, this.cell 5, this.lt⟩
 obtain ⟨hf1, hf2, hf3⟩ := hf
 obtain ⟨va, vc, hvf⟩ := hq.form
 rw [List.length_append, List.length_singleton] at hvf
 obtain ⟨ra, rc, hrf⟩ := h1.row.form
 rw [hrf] at c5 hr hf2
 subst hvf
 have HR := hide hr
 clear h1 h2 hI hr hq hv hO hrf HE HP hb1
 go_wp2_with (at_builtin; refine Lib.wpList_append_run _ rfl _ _ _ _ rfl _ _ rfl rfl _ _ (uh HR) ?_)
 go_end0
 exact ⟨rfl, uh HPO⟩
end Go.Proofs.YtbkpdapagfjmmaaGreatDoor
