import Derived.Test.YtbkpdapagfjmmaaGreatDoorA10
import Derived.Deep.RegionHeld
set_option linter.unusedVariables false
set_option maxRecDepth 100000
set_option maxHeartbeats 16000000
namespace Go.Proofs.YtbkpdapagfjmmaaGreatDoor
open Go.RowKit
def rwV (o : Lk.Ow) : List Value := [.int .i64 (o.id : Int), .string (bs o.left), .int .i64 (o.cr : Int), .bool o.done]
def L6 (l : List Lk.Ow) : List Value := l.flatMap rwV
def rtV (o : Lk.Ot) : List Value := [.int .i64 (o.id : Int), .int .i64 (o.cr : Int), .int .i64 (o.held : Int), .bool o.opn, .bool o.drp]
def L8 (l : List Lk.Ot) : List Value := l.flatMap rtV
theorem L9 {α : Type} (f : α -> List Value) (n : Nat) (hf : ∀ x, (f x).length = n) (l : List α) : (l.flatMap f).length = l.length * n := by
 induction l with
 | nil => simp
 | cons x l ih => simp only [List.flatMap_cons, List.length_append, hf, ih, List.length_cons]; rw [Nat.add_mul, Nat.one_mul]; omega
theorem Pn {α : Type} (f : α -> List Value) (n : Nat) (hf : ∀ x, (f x).length = n) (l : List α) : ∀ (i j : Nat) (x : α), l[i]? = some x -> j < n -> (l.flatMap f)[i * n + j]? = (f x)[j]? := by
 induction l with
 | nil => intro i j x h; simp at h
 | cons y l ih =>
   intro i j x h hj
   simp only [List.flatMap_cons]
   cases i with
   | zero =>
     simp at h
     subst h
     rw [Nat.zero_mul, Nat.zero_add, List.getElem?_append_left (by rw [hf]; exact hj)]
   | succ i =>
     have := ih i j x (by simpa using h) hj
     rw [List.getElem?_append_right (by rw [hf, Nat.add_mul, Nat.one_mul]; omega), hf, <- this]
     congr 1
     rw [Nat.add_mul, Nat.one_mul]
     omega
theorem Mc {α : Type} (f : α -> List Value) (n : Nat) (hf : ∀ x, (f x).length = n) (l : List α) : ∀ (i j : Nat) (x y : α) (v : Value), l[i]? = some x -> j < n -> (f x).set j v = f y -> (l.flatMap f).set (i * n + j) v = (l.set i y).flatMap f := by
 induction l with
 | nil => intro i j x y v h; simp at h
 | cons z l ih =>
   intro i j x y v h hj hv
   simp only [List.flatMap_cons]
   cases i with
   | zero =>
     simp at h
     subst h
     rw [Nat.zero_mul, Nat.zero_add, List.set_append_left _ _ (by rw [hf]; exact hj), hv]
     simp
   | succ i =>
     have := ih i j x y v (by simpa using h) hj hv
     rw [List.set_append_right _ _ (by rw [hf, Nat.add_mul, Nat.one_mul]; omega), hf]
     have e : (i + 1) * n + j - n = i * n + j := by rw [Nat.add_mul, Nat.one_mul]; omega
     rw [e, this]
     simp
theorem ed {α : Type} {w : World} {B n : Nat} {T : TypeId} {v : Value} {l : List α} (f : α -> List Value) (hf : ∀ x, (f x).length = n) (h : w.ownsRow B T n v l.length (l.flatMap f)) {i : Nat} {x : α} (hx : l[i]? = some x) :
 ∃ g cap, v = .slice (some ⟨g, 0, none⟩) l.length cap ∧ B <= g ∧ g < w.heap.size ∧ l.length <= cap ∧ (∀ j, j < n -> w.cell? ⟨g, i * n + j, none⟩ = (f x)[j]?) ∧ ∀ j, w.frozen? ⟨g, j, none⟩ = false := by
 have hi : i < l.length := (List.getElem?_eq_some_iff.1 hx).1
 rcases h.2 with ⟨_, h0⟩ | ⟨g, cap, cur, rfl, hB, hg, hn, hc, hs, ht⟩
 . omega
 . have hI : Is w g T cur.toList := by unfold Is; simpa using hg
   refine ⟨g, cap, rfl, hB, hI.lt, hn, fun j hj => ?_, fun j => hI.free j⟩
   have hlt : i * n + j < l.length * n := by
    have : (i + 1) * n <= l.length * n := Nat.mul_le_mul_right _ (by omega)
    rw [Nat.add_mul, Nat.one_mul] at this
    omega
   rw [hI.cell, <- Pn f n hf l i j x hx hj, <- ht, List.getElem?_take_of_lt hlt]
theorem vX {α : Type} {w : World} {B n g cap : Nat} {T : TypeId} {l : List α} (f : α -> List Value) (hf : ∀ x, (f x).length = n) (h : w.ownsRow B T n (.slice (some ⟨g, 0, none⟩) l.length cap) l.length (l.flatMap f)) {i j : Nat} {x y : α} {v : Value} (hx : l[i]? = some x) (hj : j < n) (hv : (f x).set j v = f y) :
 (w.setCell ⟨g, i * n + j, none⟩ v).ownsRow B T n (.slice (some ⟨g, 0, none⟩) l.length cap) (l.set i y).length ((l.set i y).flatMap f) := by
 rcases h.2 with ⟨h0, _⟩ | ⟨g', cap', cur, h0, h1, h2, h3, h4, h5, h6⟩
 . cases h0
 . cases h0
   have hI : Is w g T cur.toList := by unfold Is; simpa using h2
   have hI' := hI.set (i * n + j) v
   unfold Is at hI'
   refine ⟨L9 f n hf _, .inr ⟨g, cap, (cur.toList.set (i * n + j) v).toArray, by simp, h1, hI', by simpa using h3, h4, by simpa using h5, ?_⟩⟩
   rw [List.length_set, <- Mc f n hf l i j x y v hx hj hv, <- h6, List.take_set]
structure RP where
 ob : Nat
 ib : Nat
 rb : Nat
 vo : Value
 vi : Value
 rv : Value
 wv : Value
 tv : Value
def jo (e : Lk.En) (p : RP) : List Value := [.int .i64 (e.side : Int), .int .i64 (e.win : Int), ptr p.ob, ptr p.ib, ptr p.rb, p.rv, p.wv, p.tv, .int .i64 (e.all : Int), .int .i64 (e.room : Int), .int .i64 (e.turn : Int), .bool e.iH, .bool e.oK, .int .i64 (e.down : Int)]
def aI (b : Nat) (p : RP) (i : Nat) : Prop := i = b ∨ i = p.ob ∨ i = p.ib ∨ i = p.rb ∨ p.vo.ownBlock = some i ∨ p.vi.ownBlock = some i ∨ p.rv.ownBlock = some i ∨ p.wv.ownBlock = some i ∨ p.tv.ownBlock = some i
structure aT (κ : Prop) (w : World) (b : Nat) (e : Lk.En) (p : RP) : Prop where
 blk : Is w b 200 (jo e p)
 out : RTab w p.ob 100 e.out p.vo
 inn : RTab w p.ib 100 e.inn p.vi
 rd : ∃ s f, Is w p.rb 54 [.string s, .int .i64 f] ∧ (κ -> e.down = 0 -> f = 0 ∧ s.data.toList = e.rest)
 row : nY w p.rv e.row
 own : w.ownsRow 0 258 4 p.wv e.own.length (L6 e.own)
 oth : w.ownsRow 0 265 5 p.tv e.oth.length (L8 e.oth)
 ne : p.ob ≠ p.ib
 nv : p.vo.ownBlock = none ∨ p.vo.ownBlock ≠ p.vi.ownBlock
section
variable {κ : Prop} {w w' : World} {b : Nat} {e e' : Lk.En} {p : RP}
theorem aT.lt (h : aT κ w b e p) {i : Nat} (hi : aI b p i) : i < w.heap.size := by
 rcases hi with rfl | rfl | rfl | rfl | hi | hi | hi | hi | hi
 . exact h.blk.lt
 . exact h.out.blk.lt
 . exact h.inn.blk.lt
 . obtain ⟨s, f, h1, _⟩ := h.rd
   exact h1.lt
 . exact (h.out.own.lt i hi).2
 . exact (h.inn.own.lt i hi).2
 . exact h.row.lt hi
 . exact (h.own.lt i hi).2
 . exact (h.oth.lt i hi).2
theorem RTab.only {S : Nat -> Prop} {t B : Nat} {L : List Lk.Hd} {v : Value} (h : RTab w t B L v) (k : Only S w w') (h1 : ¬ S t) (h2 : ∀ i, v.ownBlock = some i -> ¬ S i) : RTab w' t B L v :=
 ⟨h.blk.only k h1, ag h.own k h2, h.le, h.hB⟩
theorem aT.only {S : Nat -> Prop} (h : aT κ w b e p) (k : Only S w w') (hn : ∀ i, aI b p i -> ¬ S i) : aT κ w' b e p := by
 obtain ⟨s, f, h1, h2⟩ := h.rd
 have f1 : ∀ i, p.vo.ownBlock = some i -> aI b p i := fun i hi => .inr (.inr (.inr (.inr (.inl hi))))
 have f2 : ∀ i, p.vi.ownBlock = some i -> aI b p i := fun i hi => .inr (.inr (.inr (.inr (.inr (.inl hi)))))
 have f3 : ∀ i, p.rv.ownBlock = some i -> aI b p i := fun i hi => .inr (.inr (.inr (.inr (.inr (.inr (.inl hi))))))
 have f4 : ∀ i, p.wv.ownBlock = some i -> aI b p i := fun i hi => .inr (.inr (.inr (.inr (.inr (.inr (.inr (.inl hi)))))))
 have f5 : ∀ i, p.tv.ownBlock = some i -> aI b p i := fun i hi => .inr (.inr (.inr (.inr (.inr (.inr (.inr (.inr hi)))))))
 exact ⟨h.blk.only k (hn _ (.inl rfl)), h.out.only k (hn _ (.inr (.inl rfl))) (fun i hi => hn i (f1 i hi)), h.inn.only k (hn _ (.inr (.inr (.inl rfl)))) (fun i hi => hn i (f2 i hi)), ⟨s, f, h1.only k (hn _ (.inr (.inr (.inr (.inl rfl))))), h2⟩, h.row.only k (fun i hi => hn i (f3 i hi)), ag h.own k (fun i hi => hn i (f4 i hi)), ag h.oth k (fun i hi => hn i (f5 i hi)), h.ne, h.nv⟩
theorem aT.below (h : aT κ w b e p) (k : Below w.heap.size w w') : aT κ w' b e p := h.only (Only.of_below k (fun _ => False)) (fun _ _ x => x)
theorem aT.apart (h : aT κ w b e p) : b ≠ p.ob ∧ b ≠ p.ib ∧ b ≠ p.rb ∧ (∀ i, p.vo.ownBlock = some i -> i ≠ b) ∧ (∀ i, p.vi.ownBlock = some i -> i ≠ b) ∧ (∀ i, p.rv.ownBlock = some i -> i ≠ b) ∧ (∀ i, p.wv.ownBlock = some i -> i ≠ b) ∧ (∀ i, p.tv.ownBlock = some i -> i ≠ b) := by
 obtain ⟨s, f, h1, _⟩ := h.rd
 exact ⟨h.blk.ne h.out.blk (nbq rfl), h.blk.ne h.inn.blk (nbq rfl), h.blk.ne h1 (nbq rfl), fun i hi e => own_ne h.out.own h.blk (nbq rfl) (by rw [hi, e]), fun i hi e => own_ne h.inn.own h.blk (nbq rfl) (by rw [hi, e]), fun i hi e => h.row.ne h.blk (nbq rfl) (by rw [hi, e]), fun i hi e => own_ne h.own h.blk (nbq rfl) (by rw [hi, e]), fun i hi e => own_ne h.oth h.blk (nbq rfl) (by rw [hi, e])⟩
theorem aT.cells (h : aT κ w b e p) (hI : Is w' b 200 (jo e' p)) (hO : Only (· = b) w w') (h1 : e'.out = e.out) (h2 : e'.inn = e.inn) (h3 : e'.row = e.row) (h4 : e'.own = e.own) (h5 : e'.oth = e.oth) (h6 : e'.down = 0 -> e.down = 0 ∧ e'.rest = e.rest) : aT κ w' b e' p := by
 obtain ⟨a1, a2, a3, a4, a5, a6, a7, a8⟩ := h.apart
 obtain ⟨s, f, r1, r2⟩ := h.rd
 refine ⟨hI, by rw [h1]; exact h.out.only hO (Ne.symm a1) a4, by rw [h2]; exact h.inn.only hO (Ne.symm a2) a5, ⟨s, f, r1.only hO (Ne.symm a3), fun hk hd => ?_⟩, by rw [h3]; exact h.row.only hO a6, by rw [h4]; exact ag h.own hO a7, by rw [h5]; exact ag h.oth hO a8, h.ne, h.nv⟩
 obtain ⟨g1, g2⟩ := h6 hd
 rw [g2]
 exact r2 hk g1
theorem aT.set (h : aT κ w b e p) (i : Nat) (v : Value) (hc : (jo e p).set i v = jo e' p) (h1 : e'.out = e.out) (h2 : e'.inn = e.inn) (h3 : e'.row = e.row) (h4 : e'.own = e.own) (h5 : e'.oth = e.oth) (h6 : e'.down = 0 -> e.down = 0 ∧ e'.rest = e.rest) : aT κ (w.setCell ⟨b, i, none⟩ v) b e' p := by
 have hI := h.blk.set i v
 rw [hc] at hI
 exact h.cells hI ((Only.refl _ w).set b i v (fun _ => rfl)) h1 h2 h3 h4 h5 h6
end
variable {κ : Prop}
def aj (κ : Prop) (w : World) (b : Nat) (p : RP) (e' : Lk.En) (w' : World) : Prop := ∃ p', aT κ w' b e' p' ∧ (∀ i, aI b p' i -> aI b p i ∨ w.heap.size <= i) ∧ Only (aI b p) w w'
theorem aj.same {w : World} {b : Nat} {e : Lk.En} {p : RP} (h : aT κ w b e p) : aj κ w b p e w := ⟨p, h, fun _ hi => .inl hi, Only.refl _ _⟩
theorem aj.trans {w w1 w2 : World} {b : Nat} {p p1 : RP} {e2 : Lk.En} (hf : ∀ i, aI b p1 i -> aI b p i ∨ w.heap.size <= i) (hO : Only (aI b p) w w1) (h : aj κ w1 b p1 e2 w2) : aj κ w b p e2 w2 := by
 obtain ⟨p2, h1, h2, h3⟩ := h
 refine ⟨p2, h1, fun i hi => ?_, hO.trans h3 (fun i hi hlt => ?_)⟩
 . rcases h2 i hi with h | h
   . exact hf i h
   . exact .inr (Nat.le_trans hO.size h)
 . rcases hf i hi with h | h
   . exact h
   . omega
theorem aj.before {w w1 w2 : World} {b : Nat} {p : RP} {e2 : Lk.En} (hb : Below w.heap.size w w1) (h : aj κ w1 b p e2 w2) : aj κ w b p e2 w2 := aj.trans (fun _ hi => .inl hi) (Only.of_below hb _) h
theorem aj.after {w w1 w2 : World} {b : Nat} {p : RP} {e2 : Lk.En} (h : aj κ w b p e2 w1) (hb : Below w1.heap.size w1 w2) : aj κ w b p e2 w2 := by
 obtain ⟨p2, h1, h2, h3⟩ := h
 exact ⟨p2, h1.below hb, h2, h3.below hb⟩
theorem sO (n : Nat) (h : n < 128) (w : World) :
 Calls Tryz.prog 99 #[.int .i64 n] w fun e w' => e = .returned (.string ⟨(Lk.wire n).toArray⟩) ∧ Below w.heap.size w w' := by
 have k1 := oW
 go_enter Tryz.func99, Tryz.ntmps99
 go_wp2_with fail
 go_ret
 exact ⟨dY (by rw [Lk.gu n h]), (Below.refl _ _).alloc (Nat.le_refl _) _⟩
theorem Po (n : Nat) (k : UInt8) (l : Array UInt8) (hk : k = UInt8.ofNat (128 + n % 128)) (h : 128 <= n) (hl : Hid ((Lk.wire (n / 128)).toArray = l)) : (⟨#[k]⟩ : ByteArray) ++ ⟨l⟩ = ⟨(Lk.wire n).toArray⟩ := by
 rw [<- uh hl, Lk.iG n (by omega), hk]
 exact ByteArray.mk_append_mk [_] _
theorem xQ (n : Nat) (h : 128 <= n) (hn : n <= 268435455) (w : World) (ih : Hid (∀ (m : Int) w, m = ((n / 128 : Nat) : Int) -> Calls Tryz.prog 99 #[.int .i64 m] w fun e w' => e = .returned (.string ⟨(Lk.wire (n / 128)).toArray⟩) ∧ Below w.heap.size w w')) :
 Calls Tryz.prog 99 #[.int .i64 n] w fun e w' => e = .returned (.string ⟨(Lk.wire n).toArray⟩) ∧ Below w.heap.size w w' := by
 have k1 := oW
 have k2 := fun W => rQ W w.heap.size (IntKind.u8.wrap (IntKind.i64.wrap (128 + (n : Int).tmod 128)))
 have hn' : ¬ (n : Int) < 128 := by omega
 have hsz := Lk.au (n / 128) (by omega)
 generalize hl : (Lk.wire (n / 128)).toArray = l at ih
 have hl4 : l.size <= 4 := by rw [<- hl]; simpa using hsz
 have XQ : 1 + l.size <= 9223372036854775807 := by omega
 clear hsz
 have HL := hide hl
 clear hl
 go_enter Tryz.func99, Tryz.ntmps99
 go_wp2_with fail
 go_region_with (go_at_call 99; refine (uh ih _ _ ?_).mono ?_; (simp [IntKind.wrap_i64]; omega); rintro e w1 ⟨rfl, hb⟩; obtain ⟨hc, hf⟩ := TK hb)
 all_goals go_wp2_with fail
 all_goals go_ret
 . exact ⟨dY (Po n _ l (by first | rfl | (congr 1; omega) | simp) h HL), (((Below.refl _ _).alloc (Nat.le_refl _) _).drew).trans (hb.mono (by simp))⟩
 . exact ⟨dY (Po n _ l (by first | rfl | (congr 1; omega) | simp) h HL), (((Below.refl _ _).alloc (Nat.le_refl _) _).drew).trans (hb.mono (by simp))⟩
 . refine ⟨dY (Po n _ l (by first | rfl | (congr 1; omega) | simp) h HL), ?_⟩
   have hb0 := (Below.refl w.heap.size w).drew.trans hb
   exact hb0.alloc hb0.size _
theorem kD : ∀ (n : Nat) (m : Int) (w : World), m = (n : Int) -> n <= 268435455 ->
 Calls Tryz.prog 99 #[.int .i64 m] w fun e w' => e = .returned (.string ⟨(Lk.wire n).toArray⟩) ∧ Below w.heap.size w w' := by
 intro n
 induction n using Nat.strongRecOn with
 | _ n ih =>
   intro m w hm hn
   subst hm
   by_cases h : n < 128
   . exact sO n h w
   . exact xQ n (by omega) hn w (hide fun m w hm => ih (n / 128) (by omega) m w hm (by omega))
theorem Gf (k st : Int) (s : ByteArray) (w : World) (hne : Lk.aO k st s.data.toList ≠ 0) :
 Calls Tryz.prog 56 #[.agg #[.int .i64 k, .int .i64 st, .string s]] w fun e w' => e = .returned (.tuple #[.string ⟨#[]⟩, .int .i64 (Lk.aO k st s.data.toList)]) ∧ Below w.heap.size w w' := by
 have hb0 : Below w.heap.size w (w.alloc (.cells #[.int .i64 k, .int .i64 st, .string s] 66)) := (Below.refl _ _).alloc (Nat.le_refl _) _
 have HNE := hide hne
 clear hne
 by_cases hk : k < 0 ∨ 7 < k
 . have hp : Lk.aO k st s.data.toList = 3 := by rw [Lk.aO, if_pos hk]
   rw [hp]
   clear hp HNE
   rcases hk with hk | hk
   all_goals
    go_enter Tryz.func56, Tryz.ntmps56
    go_wp2_with fail
    go_ret2
    exact ⟨rfl, hb0⟩
 by_cases hst : st < 0 ∨ 268435455 < st
 . have hp : Lk.aO k st s.data.toList = 2 := by rw [Lk.aO, if_neg hk, if_pos hst]
   rw [hp]
   have h0 : 0 <= k := by omega
   have h7 : k <= 7 := by omega
   clear hp HNE hk
   rcases hst with hst | hst
   all_goals
    go_enter Tryz.func56, Tryz.ntmps56
    go_wp2_with fail
    go_ret2
    exact ⟨rfl, hb0⟩
 have h0 : 0 <= k := by omega
 have h7 : k <= 7 := by omega
 have hs0 : 0 <= st := by omega
 have hs1 : st <= 268435455 := by omega
 by_cases hsf : Lk.aC k st = false
 . have hp : Lk.aO k st s.data.toList = 4 := by rw [Lk.aO, if_neg hk, if_neg hst, if_pos hsf]
   rw [hp]
   have HS := hide hsf
   clear hp HNE hk hst hsf
   go_enter Tryz.func56, Tryz.ntmps56
   go_wp2_with fail
   refine (dL k st _).mono ?_
   rw [uh HS]
   rintro e w1 ⟨rfl, rfl⟩
   go_wp2_with fail
   go_ret2
   exact ⟨rfl, hb0⟩
 by_cases hL : 64 < s.data.toList.length
 . have hp : Lk.aO k st s.data.toList = 5 := by rw [Lk.aO, if_neg hk, if_neg hst, if_neg hsf, if_pos hL]
   rw [hp]
   simp only [Bool.not_eq_false] at hsf
   rw [<- af] at hL
   have hL' : (64 : Int) < (s.size : Int) := by omega
   have HS := hide hsf
   clear hp HNE hk hst hsf
   go_enter Tryz.func56, Tryz.ntmps56
   go_wp2_with fail
   refine (dL k st _).mono ?_
   rw [uh HS]
   rintro e w1 ⟨rfl, rfl⟩
   go_wp2_with fail
   go_ret2
   exact ⟨rfl, hb0⟩
 by_cases hf : Lk.aA k s.data.toList.length = false
 . have hp : Lk.aO k st s.data.toList = 6 := by rw [Lk.aO, if_neg hk, if_neg hst, if_neg hsf, if_neg hL, if_pos hf]
   rw [hp]
   simp only [Bool.not_eq_false] at hsf
   rw [<- af] at hL hf
   have hL' : ¬ (64 : Int) < (s.size : Int) := by omega
   have HS := hide hsf
   have HF := hide hf
   clear hp HNE hk hst hsf hf
   go_enter Tryz.func56, Tryz.ntmps56
   go_wp2_with fail
   refine (dL k st _).mono ?_
   rw [uh HS]
   rintro e w1 ⟨rfl, rfl⟩
   go_wp2_with fail
   refine (dZ k _ _).mono ?_
   rw [uh HF]
   rintro e w1 ⟨rfl, rfl⟩
   go_wp2_with fail
   go_ret2
   exact ⟨rfl, hb0⟩
 by_cases hg : Lk.ay k s.data.toList = false
 . have hp : Lk.aO k st s.data.toList = 6 := by rw [Lk.aO, if_neg hk, if_neg hst, if_neg hsf, if_neg hL, if_neg hf, if_pos hg]
   rw [hp]
   simp only [Bool.not_eq_false] at hsf hf
   rw [<- af] at hL hf
   have hL' : ¬ (64 : Int) < (s.size : Int) := by omega
   have HS := hide hsf
   have HF := hide hf
   have HG := hide hg
   clear hp HNE hk hst hsf hf hg
   go_enter Tryz.func56, Tryz.ntmps56
   go_wp2_with fail
   refine (dL k st _).mono ?_
   rw [uh HS]
   rintro e w1 ⟨rfl, rfl⟩
   go_wp2_with fail
   refine (dZ k _ _).mono ?_
   rw [uh HF]
   rintro e w1 ⟨rfl, rfl⟩
   go_wp2_with fail
   refine (jl k s _ (by omega)).mono ?_
   rw [uh HG]
   rintro e w2 ⟨rfl, hb2⟩
   have hbw2 := hb0.trans (hb2.mono (by simp))
   clear hb2 hb0
   go_wp2_with fail
   go_ret2
   exact ⟨rfl, hbw2⟩
 exact absurd (by rw [Lk.aO, if_neg hk, if_neg hst, if_neg hsf, if_neg hL, if_neg hf, if_neg hg]) (uh HNE)
theorem Gg {N : Nat} {m n : Int} {s : ByteArray} {w2 W : World} (h : W.cell? ⟨N, 0, none⟩ = some (.int .i64 m) ∧ W.cell? ⟨N, 1, none⟩ = some (.int .i64 n) ∧ W.cell? ⟨N, 2, none⟩ = some (.string s) ∧ Below w2.heap.size w2 W) (o : Obj) :
 (W.alloc o).cell? ⟨N, 0, none⟩ = some (.int .i64 m) ∧ (W.alloc o).cell? ⟨N, 1, none⟩ = some (.int .i64 n) ∧ (W.alloc o).cell? ⟨N, 2, none⟩ = some (.string s) ∧ Below w2.heap.size w2 (W.alloc o) := by
 obtain ⟨a, b, c, d⟩ := h
 refine ⟨?_, ?_, ?_, d.alloc d.size o⟩
 . rw [World.cell?_alloc_some _ _ _ (by rw [a]; rfl), a]
 . rw [World.cell?_alloc_some _ _ _ (by rw [b]; rfl), b]
 . rw [World.cell?_alloc_some _ _ _ (by rw [c]; rfl), c]
theorem vY {N : Nat} {m n : Int} {s : ByteArray} {w2 W W' : World} (h : W.cell? ⟨N, 0, none⟩ = some (.int .i64 m) ∧ W.cell? ⟨N, 1, none⟩ = some (.int .i64 n) ∧ W.cell? ⟨N, 2, none⟩ = some (.string s) ∧ Below w2.heap.size w2 W) (hb : Below W.heap.size W W') :
 W'.cell? ⟨N, 0, none⟩ = some (.int .i64 m) ∧ W'.cell? ⟨N, 1, none⟩ = some (.int .i64 n) ∧ W'.cell? ⟨N, 2, none⟩ = some (.string s) ∧ Below w2.heap.size w2 W' := by
 obtain ⟨a, b, c, d⟩ := h
 have hN : N < W.heap.size := World.block_lt_of_cell? W ⟨N, 0, none⟩ a
 exact ⟨(hb.cell (p := ⟨N, 0, none⟩) hN).trans a, (hb.cell (p := ⟨N, 1, none⟩) hN).trans b, (hb.cell (p := ⟨N, 2, none⟩) hN).trans c, d.trans (hb.mono d.size)⟩
theorem Md {N : Nat} {m n : Int} {s : ByteArray} {w2 W : World} (h : W.cell? ⟨N, 0, none⟩ = some (.int .i64 m) ∧ W.cell? ⟨N, 1, none⟩ = some (.int .i64 n) ∧ W.cell? ⟨N, 2, none⟩ = some (.string s) ∧ Below w2.heap.size w2 W) : Below w2.heap.size w2 W := h.2.2.2
theorem TQ (m n : Nat) (s : ByteArray) (ln lm : Array UInt8) (h1 : Hid ((Lk.wire n).toArray = ln)) (h2 : Hid ((Lk.wire s.size).toArray = lm)) :
 (⟨#[UInt8.ofNat m]⟩ : ByteArray) ++ ⟨ln⟩ ++ ⟨lm⟩ ++ s = ⟨(Lk.packed m n s.data.toList).toArray⟩ := by
 have e : s = ByteArray.mk s.data.toList.toArray := by simp
 have e1 := ByteArray.mk_append_mk [UInt8.ofNat m] (Lk.wire n)
 have e2 := ByteArray.mk_append_mk ([UInt8.ofNat m] ++ Lk.wire n) (Lk.wire s.size)
 have e3 := ByteArray.mk_append_mk ([UInt8.ofNat m] ++ Lk.wire n ++ Lk.wire s.size) s.data.toList
 rw [<- uh h1, <- uh h2]
 calc (⟨#[UInt8.ofNat m]⟩ : ByteArray) ++ ⟨(Lk.wire n).toArray⟩ ++ ⟨(Lk.wire s.size).toArray⟩ ++ s
  = (⟨([UInt8.ofNat m] ++ Lk.wire n).toArray⟩ : ByteArray) ++ ⟨(Lk.wire s.size).toArray⟩ ++ s := congrArg (· ++ _ ++ s) e1
  _ = (⟨([UInt8.ofNat m] ++ Lk.wire n ++ Lk.wire s.size).toArray⟩ : ByteArray) ++ s := congrArg (· ++ s) e2
  _ = (⟨([UInt8.ofNat m] ++ Lk.wire n ++ Lk.wire s.size).toArray⟩ : ByteArray) ++ ⟨s.data.toList.toArray⟩ := by rw [<- e]
  _ = _ := by rw [e3, Lk.packed, Int.toNat_natCast, Int.toNat_natCast, <- af]; simp
theorem sQ (m n : Nat) (s : ByteArray) (w : World) (h7 : m <= 7) (hs1 : n <= 268435455) (hl : s.size <= 64)
 (hsf : Lk.aC m n = true) (hf : Lk.aA m s.size = true) (hg : Lk.ay m s.data.toList = true) :
 Calls Tryz.prog 56 #[.agg #[.int .i64 m, .int .i64 n, .string s]] w fun e w' => e = .returned (.tuple #[.string ⟨(Lk.packed m n s.data.toList).toArray⟩, .int .i64 0]) ∧ Below w.heap.size w w' := by
 have hb0 : Below w.heap.size w (w.alloc (.cells #[.int .i64 m, .int .i64 n, .string s] 66)) := (Below.refl _ _).alloc (Nat.le_refl _) _
 have hI0 := Is.new w 66 [.int .i64 m, .int .i64 n, .string s]
 have HS := hide hsf
 have HF := hide hf
 have HG := hide hg
 have hL' : ¬ (64 : Int) < (s.size : Int) := by omega
 clear hsf hf hg
 go_enter Tryz.func56, Tryz.ntmps56
 go_wp2_with fail
 refine (dL m n _).mono ?_
 rw [uh HS]
 rintro e w1 ⟨rfl, rfl⟩
 go_wp2_with fail
 refine (dZ m _ _).mono ?_
 rw [uh HF]
 rintro e w1 ⟨rfl, rfl⟩
 go_wp2_with fail
 refine (jl m s _ (by omega)).mono ?_
 rw [uh HG]
 rintro e w2 ⟨rfl, hb2⟩
 have hbw2 := hb0.trans (hb2.mono (by simp))
 have hI2 := hI0.below hb2 (by simp)
 have hz := hI2.lt
 obtain ⟨c0, c1, c2⟩ := hI2.three
 clear hb2 hb0 hI0
 have k1 := oW
 have hwm : IntKind.u8.wrap (m : Int) = m := wraps_u8 _ (by omega) (by omega)
 have k3 := fun W g => rQ W g (m : Int)
 have hn4 := Lk.au n hs1
 have hm4 := Lk.au s.size (by omega)
 generalize hln : (Lk.wire n).toArray = ln
 generalize hlm : (Lk.wire s.size).toArray = lm
 have HLN := hide hln
 have HLM := hide hlm
 have hn5 : ln.size <= 4 := by rw [<- hln]; simpa using hn4
 have hm5 : lm.size <= 4 := by rw [<- hlm]; simpa using hm4
 have HN := hide (fun (x : Int) w (h : x = n) => kD n x w h hs1)
 have HM := hide (fun (x : Int) w (h : x = s.size) => kD s.size x w h (by omega))
 rw [hln] at HN
 rw [hlm] at HM
 have hz1 : 1 + ln.size <= 9223372036854775807 := by omega
 have hz2 : 1 + ln.size + lm.size <= 9223372036854775807 := by omega
 have hz3 : 1 + ln.size + lm.size + s.size <= 9223372036854775807 := by omega
 clear hln hlm hn4 hm4
 go_wp2_with fail
 go_region_held (fun w' => w'.cell? ⟨w.heap.size, 0, none⟩ = some (.int .i64 m) ∧ w'.cell? ⟨w.heap.size, 1, none⟩ = some (.int .i64 n) ∧ w'.cell? ⟨w.heap.size, 2, none⟩ = some (.string s) ∧ Below w2.heap.size w2 w')
  (first | exact ⟨c0, c1, c2, (Below.refl _ _).drew⟩ | exact Gg (by assumption) _ | exact vY (by assumption) hbn | exact vY (by assumption) hbm | assumption)
  (first
   | (go_at_call_of 99 (Value.int IntKind.i64 (n : Int)); refine (uh HN _ _ rfl).mono ?_; rintro e wn ⟨rfl, hbn⟩
      have q1 := fun h => cell_later (a := ⟨w2.heap.size, 0, none⟩) (v := .int .u8 (m : Int)) hbn h
      try simp [*, go_sem] at q1
      try (have q2 := fun h => cell_later (a := ⟨wm.heap.size, 0, none⟩) (v := .int .u8 (m : Int)) hbn h
           simp [*, go_sem] at q2))
   | (go_at_call_of 99 (Value.int IntKind.i64 (s.size : Int)); refine (uh HM _ _ rfl).mono ?_; rintro e wm ⟨rfl, hbm⟩
      have q3 := fun h => cell_later (a := ⟨w2.heap.size, 0, none⟩) (v := .int .u8 (m : Int)) hbm h
      try simp [*, go_sem] at q3
      try (have q4 := fun h => cell_later (a := ⟨wn.heap.size, 0, none⟩) (v := .int .u8 (m : Int)) hbm h
           simp [*, go_sem] at q4)))
 all_goals go_wp2_with fail
 all_goals go_ret2
 all_goals exact ⟨LQ (TQ m n s ln lm HLN HLM) rfl, hbw2.trans ((Md (N := w.heap.size) (m := m) (n := n) (s := s) (w2 := w2) (by assumption)).mono hbw2.size)⟩
theorem Cj (k st : Int) (s : ByteArray) (w : World) :
 Calls Tryz.prog 56 #[.agg #[.int .i64 k, .int .i64 st, .string s]] w fun e w' => e = .returned (.tuple #[.string (jm k st s.data.toList), .int .i64 (Lk.aO k st s.data.toList)]) ∧ Below w.heap.size w w' := by
 by_cases h : Lk.aO k st s.data.toList = 0
 . obtain ⟨h0, h7, h1, h2, h3, h4, h5, h6⟩ := qw h
   rw [jm, if_pos h, h]
   obtain ⟨n, rfl⟩ := Int.eq_ofNat_of_zero_le h1
   obtain ⟨m, rfl⟩ := Int.eq_ofNat_of_zero_le h0
   rw [<- af] at h3 h5
   exact sQ m n s w (by omega) (by omega) h3 h4 h5 h6
 . have e := Gf k st s w h
   rw [jm, if_neg h]
   exact e
namespace Lk
theorem Eu (B : Nat) (L : List Hd) (h : Hd) (hB : B < h.weight) : put B L h = [] := by
 unfold put
 rw [fit, if_neg (by omega)]
theorem Ew (B : Nat) (L : List Hd) (h : Hd) (k : Nat) (hk : k <= L.length) (h1 : weights ((h :: L).take (k + 1)) <= B) (h2 : k = L.length ∨ B < weights ((h :: L).take (k + 2))) : put B L h = (h :: L).take (k + 1) :=
 xx (h :: L) B (k + 1) (by simpa using hk) h1 (by simpa using h2)
theorem zV {l : List Hd} {m : Nat} {x : Hd} (hx : l[m]? = some x) : weights (l.take (m + 1)) = weights (l.take m) + x.weight := by
 rw [List.take_add_one, hx]
 simp [jI, weights]
end Lk
structure eF (w wr : World) (t B : Nat) (L : List Lk.Hd) (h : Lk.Hd) (v m : Value) (k : Nat) : Prop where
 tab : RTab wr t B L v
 box : Is wr w.heap.size 206 [.string (bs h.n), .string (bs h.v)]
 own : wr.ownsRow (w.heap.size + 1) 206 2 m (k + 1) (aQ ((h :: L).take (k + 1)))
 bel : Below w.heap.size w wr
theorem eF.drewN {w wr : World} {t B : Nat} {L : List Lk.Hd} {h : Lk.Hd} {v m : Value} {k : Nat} (p : eF w wr t B L h v m k) (n : Nat) : eF w (wr.drewN n) t B L h v m k :=
 ⟨⟨p.tab.blk, p.tab.own, p.tab.le, p.tab.hB⟩, p.box, p.own, ⟨p.bel.os, p.bel.tape, p.bel.output, p.bel.size, p.bel.block⟩⟩
def TR (w : World) (t B : Nat) (L : List Lk.Hd) (h : Lk.Hd) (w' : World) : Prop :=
 (∃ v', RTab w' t B (Lk.put B L h) v' ∧ ∀ k, v'.ownBlock = some k -> w.heap.size <= k) ∧ Turns t w w'
theorem eF.done {w wr : World} {t B : Nat} {L : List Lk.Hd} {h : Lk.Hd} {v m : Value} {k : Nat} (p : eF w wr t B L h v m k) (hp : Lk.put B L h = (h :: L).take (k + 1)) (hk : k <= L.length) :
 TR w t B L h (wr.setCell ⟨t, 1, none⟩ m) := by
 have ho := p.own.kept (grownBy_set wr t 1 m) (.inr (fun e => own_ne p.own p.tab.blk (nbq rfl) e.symm))
 refine ⟨⟨m, ⟨p.tab.blk.set 1 m, ?_, by rw [hp]; have := Lk.jd B L h; rw [hp] at this; exact this, p.tab.hB⟩, fun q hq => by have := (p.own.lt q hq).1; omega⟩, ((Turns.refl t w).below p.bel).set 1 m⟩
 rw [hp]
 have e : ((h :: L).take (k + 1)).length = k + 1 := by rw [List.length_take]; simp; omega
 rw [e]
 exact zL ho
theorem eF.nil' {w wr : World} {t B : Nat} {L : List Lk.Hd} {h : Lk.Hd} {v m : Value} {k : Nat} (p : eF w wr t B L h v m k) (hp : Lk.put B L h = []) :
 TR w t B L h (wr.setCell ⟨t, 1, none⟩ (.slice none 0 0)) := by
 refine ⟨⟨.slice none 0 0, ⟨p.tab.blk.set 1 _, by rw [hp]; exact World.ownsRow_nil _ _ _ _, by rw [hp]; simp [Lk.weights], p.tab.hB⟩, fun q hq => by simp [Value.ownBlock] at hq⟩, ((Turns.refl t w).below p.bel).set 1 _⟩
theorem eF.step {w wr w' : World} {t B k n : Nat} {L : List Lk.Hd} {h x : Lk.Hd} {v m v' : Value} (p : eF w wr t B L h v m k) (hx : L[k]? = some x)
 (hg : ((wr.drewN n).alloc (.cells #[.string (bs x.n), .string (bs x.v)] 206)).grownBy w' m.ownBlock) (ho : w'.ownsRow (w.heap.size + 1) 206 2 v' (k + 1 + 1) (aQ ((h :: L).take (k + 1)) ++ hdV x)) (hv : v.ownBlock = none ∨ v.ownBlock ≠ m.ownBlock := by assumption) : eF w w' t B L h v v' (k + 1) := by
 have q := p.drewN n
 have hs := q.bel.size
 have hg1 : ∀ j, m.ownBlock = some j -> w.heap.size + 1 <= j := fun j hj => (p.own.lt j hj).1
 have hT := q.tab.alloc (.cells #[.string (bs x.n), .string (bs x.v)] 206)
 have hO := q.own.alloc (.cells #[.string (bs x.n), .string (bs x.v)] 206)
 refine ⟨⟨hT.blk.grown hg (own_ne hO hT.blk (nbq rfl)), hT.own.kept hg hv, hT.le, hT.hB⟩, (q.box.alloc _).grown hg (fun e => by have := hg1 _ e.symm; omega), ?_, (q.bel.alloc hs _).grown hg (by have := p.bel.size; simp; omega) (fun j hj => by have := hg1 j hj; omega)⟩
 have e : (h :: L).take (k + 1 + 1) = (h :: L).take (k + 1) ++ [x] := by
  rw [List.take_add_one]
  simp [hx]
 rw [e, dJ]
 simpa [aQ] using ho
theorem xR (t B : Nat) (L : List Lk.Hd) (h : Lk.Hd) (v : Value) (w : World) (hT : RTab w t B L v) (hn : h.n.length <= 300) (hv : h.v.length <= 300) :
 Calls Tryz.prog 151 #[.pointer (some ⟨t, 0, none⟩), hdA h] w fun e w' => e = .returned (.tuple #[]) ∧ TR w t B L h w' := by
 obtain ⟨i, hi, hz0, hz1, hz2⟩ := info_parts xK
 have hL := hT.len
 have hB := hT.hB
 obtain ⟨a, cap, hvf⟩ := hT.form
 subst hvf
 have zn := ax h.n
 have zv := ax h.v
 have hwh : h.weight = h.n.length + h.v.length + 4 := rfl
 have hwL := hT.le
 have HWH := hide hwh
 have hP0 : eF w ((w.alloc (.cells #[.string (bs h.n), .string (bs h.v)] 206)).alloc (.cells #[.string (bs h.n), .string (bs h.v)] 206)) t B L h (.slice a L.length cap) (.slice (some ⟨w.heap.size + 1, 0, none⟩) 1 1) 0 := by
  refine ⟨(hT.alloc _).alloc _, (Is.new w _ _).alloc _, ?_, ((Below.refl _ _).alloc (Nat.le_refl _) _).alloc (by simp) _⟩
  have := nS (w.alloc (.cells #[.string (bs h.n), .string (bs h.v)] 206)) 206 h
  simpa [aQ] using this
 have HP0 := hide hP0
 have HV := hide (fun q (hq : (Value.slice a L.length cap).ownBlock = some q) => (hT.own.lt q hq).2)
 clear hT hP0 hwh
 go_enter Tryz.func151, Tryz.ntmps151
 go_wp2_with fail
 go_loopw [4, 5, 6] (fun m s u wr => ∃ k : Nat, u = .int .i64 k ∧ k <= L.length ∧ s = .int .i64 (Lk.weights ((h :: L).take (k + 1)) : Nat) ∧ (k = 0 ∨ Lk.weights ((h :: L).take (k + 1)) <= B) ∧ eF w wr t B L h (.slice a L.length cap) m k) (fun _ _ u _ => L.length - (intOf u).toNat)
 case atStart =>
  refine ⟨0, rfl, by omega, ?_, .inl rfl, uh HP0⟩
  have := uh HWH
  simp [Lk.weights]
  omega
 case round =>
  obtain ⟨k, rfl, hk, rfl, hok, hP⟩ := hrel
  obtain ⟨ma, mc, hm⟩ := aJ hP.own
  have HVM := hide (show (Value.slice a L.length cap).ownBlock = Option.none ∨ (Value.slice a L.length cap).ownBlock ≠ u4.ownBlock from by
   cases hv : (Value.slice a L.length cap).ownBlock with
   | none => exact .inl rfl
   | some q =>
     right
     intro e
     have h1 := (uh HV) q hv
     have h2 := (hP.own.lt q e.symm).1
     omega)
  subst hm
  have hsz := hP.bel.size
  have t0 := hP.tab.blk.cell 0
  have t1 := hP.tab.blk.cell 1
  have tf := hP.tab.blk.free 1
  have b0 := hP.box.cell 0
  have b1 := hP.box.cell 1
  simp only [List.getElem?_cons_zero, List.getElem?_cons_succ] at t0 t1 b0 b1
  have htl := hP.tab.blk.lt
  have hbl := hP.box.lt
  have hws : Lk.weights ((h :: L).take (k + 1)) <= 1000 := by
   have h1 := Lk.rD (h :: L) (k + 1)
   have h2 := uh HWH
   simp only [Lk.weights] at h1
   omega
  by_cases hlt : k < L.length
  . have hlt' : (k : Int) < L.length := by omega
    obtain ⟨x, hx⟩ : ∃ x, L[k]? = some x := ⟨_, List.getElem?_eq_getElem hlt⟩
    obtain ⟨g, cap', hform, hg, a0, a1⟩ := hP.tab.at' hx
    cases hform
    have zx := ax x.n
    have zy := ax x.v
    have hxw := Lk.jX (List.mem_of_getElem? hx)
    have hxe : x.weight = x.n.length + x.v.length + 4 := rfl
    have hst := Lk.zV (l := h :: L) (m := k + 1) (x := x) (by simpa using hx)
    have hxn : x.n.length <= 300 := by omega
    have hxv : x.v.length <= 300 := by omega
    have HST := hide (show ((Lk.weights ((h :: L).take (k + 1)) : Nat) : Int) + x.n.length + x.v.length + 4 = (Lk.weights ((h :: L).take (k + 2)) : Nat) by rw [hst]; omega)
    have HX := hide hx
    have HP := hide hP
    have HOK := hide hok
    clear hx hxw hxe hst hP hok
    generalize hW1 : Lk.weights ((h :: L).take (k + 1)) = W1 at *
    have HW1 := hide hW1
    clear hW1
    by_cases hgt : (B : Int) < (W1 : Int) + x.n.length + x.v.length + 4
    . go_wp2_with fail
      go_quiet (fail)
      by_cases hhw : (B : Int) < h.n.length + h.v.length + 4
      . go_wp2_with fail
        go_quiet (fail)
        go_wp2_with fail
        go_end0
        exact ⟨rfl, eF.nil' ((uh HP).drewN _) (Lk.Eu B L h (by have := uh HWH; omega))⟩
      . go_wp2_with fail
        go_quiet (fail)
        go_wp2_with fail
        go_end0
        refine ⟨rfl, eF.done ((uh HP).drewN _) (Lk.Ew B L h k hk ?_ ?_) hk⟩
        . have hwh := uh HWH
          rcases uh HOK with h0 | h0
          . subst h0
            simp [Lk.weights]
            omega
          . rw [uh HW1]; exact h0
        . right; have := uh HST; have h2 := uh HW1; omega
    . go_wp2_with fail
      go_quiet (fail)
      go_wp2_with (at_builtin; refine wpList_append_own _ rfl _ _ 154 rfl (w.heap.size + 1) 206 i _ 2 32 Tryz.underlying154 hi hz0 hz1 hz2 rfl (by decide) _ (k + 1) (aQ ((h :: L).take (k + 1))) rfl (((uh HP).drewN _).own.alloc _) ⟨wr.heap.size, 0, none⟩ 1 1 (hdV x) rfl rfl ?hnews ?h1 ?h63 ?hby ?hba ?_)
      case hnews => exact iK (nS _ _ x)
      case h1 => simp [hdV, Value.oneCell']
      case h63 => unfold maxLen; omega
      case hby => omega
      case hba => first | omega | (simp; omega)
      intro v' w' ho' hg' hn'
      have hP2 : eF w w' t B L h (.slice (some ⟨g, 0, none⟩) L.length cap) v' (k + 1) := eF.step (uh HP) (uh HX) hg' ho' (uh HVM)
      have HP2 := hide hP2
      clear hP2 ho' hg'
      go_wp2_with fail
      go_roundw
      case rel =>
       have e2 : ((W1 : Nat) : Int) + x.n.length + x.v.length + 4 = (Lk.weights ((h :: L).take (k + 1 + 1)) : Nat) := uh HST
       refine ⟨k + 1, by simp, by omega, ?_, .inr ?_, uh HP2⟩
       . simp only [Value.int.injEq, true_and]
         omega
       . omega
      case measure => simp [intOf]; omega
  . have hlt' : ¬ (k : Int) < L.length := by omega
    have HP := hide hP
    have HOK := hide hok
    clear hP hok
    generalize hW1 : Lk.weights ((h :: L).take (k + 1)) = W1 at *
    have HW1 := hide hW1
    clear hW1
    by_cases hhw : (B : Int) < h.n.length + h.v.length + 4
    . go_wp2_with fail
      go_quiet (fail)
      go_wp2_with fail
      go_end0
      exact ⟨rfl, eF.nil' ((uh HP).drewN _) (Lk.Eu B L h (by have := uh HWH; omega))⟩
    . go_wp2_with fail
      go_quiet (fail)
      go_wp2_with fail
      go_end0
      refine ⟨rfl, eF.done ((uh HP).drewN _) (Lk.Ew B L h k hk ?_ ?_) hk⟩
      . have hwh := uh HWH
        rcases uh HOK with h0 | h0
        . subst h0
          simp [Lk.weights]
          omega
        . rw [uh HW1]; exact h0
      . left; omega
end Go.Proofs.YtbkpdapagfjmmaaGreatDoor
