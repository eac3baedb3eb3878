import Derived.Test.YtbkpdapagfjmmaaGreatDoorA1
import Derived.Maps.OwnSet
import Derived.Test.YtbkpdapagfjmmaaGreatDoorA0
import Derived.Test.YtbkpdapagfjmmaaGreatDoorProg
set_option linter.unusedVariables false
set_option maxRecDepth 100000
set_option maxHeartbeats 16000000
namespace Go.Proofs.YtbkpdapagfjmmaaGreatDoor
open Go.RowKit
structure Only (S : Nat -> Prop) (w w' : World) : Prop where
 os : w'.os = w.os
 tape : w'.tape = w.tape
 output : w'.output = w.output
 size : w.heap.size <= w'.heap.size
 block : ∀ i, i < w.heap.size -> ¬ S i -> w'.heap[i]? = w.heap[i]?
theorem Only.refl (S : Nat -> Prop) (w : World) : Only S w w := ⟨rfl, rfl, rfl, Nat.le_refl _, fun _ _ _ => rfl⟩
theorem Only.trans {S S' : Nat -> Prop} {a b c : World} (h : Only S a b) (k : Only S' b c) (hs : ∀ i, S' i -> i < a.heap.size -> S i) : Only S a c :=
 ⟨k.os.trans h.os, k.tape.trans h.tape, k.output.trans h.output, Nat.le_trans h.size k.size, fun i hi hn => (k.block i (Nat.lt_of_lt_of_le hi h.size) (fun hx => hn (hs i hx hi))).trans (h.block i hi hn)⟩
theorem Only.mono {S S' : Nat -> Prop} {a b : World} (h : Only S a b) (hs : ∀ i, S i -> S' i) : Only S' a b :=
 ⟨h.os, h.tape, h.output, h.size, fun i hi hn => h.block i hi (fun hx => hn (hs i hx))⟩
theorem Only.of_below {a b : World} (k : Below a.heap.size a b) (S : Nat -> Prop) : Only S a b := ⟨k.os, k.tape, k.output, k.size, fun i hi _ => k.block i hi⟩
theorem Only.dP {t : Nat} {a b : World} (k : Turns t a b) : Only (· = t) a b := ⟨k.os, k.tape, k.output, k.size, fun i hi hn => k.block i hi (by simpa using hn)⟩
theorem Only.gV {a b : World} {row : Option Nat} (k : a.grownBy b row) : Only (fun i => some i = row) a b := ⟨k.os, k.tape, k.output, k.size, fun i hi hn => k.block i hi hn⟩
theorem Only.below {S : Nat -> Prop} {a b c : World} (h : Only S a b) (k : Below b.heap.size b c) : Only S a c := h.trans (Only.of_below k (fun _ => False)) (fun _ hx _ => hx.elim)
theorem Only.turns {S : Nat -> Prop} {t : Nat} {a b c : World} (h : Only S a b) (k : Turns t b c) (ht : t < a.heap.size -> S t) : Only S a c := h.trans (Only.dP k) (fun i hx hi => by subst hx; exact ht hi)
theorem Only.grown {S : Nat -> Prop} {a b c : World} {row : Option Nat} (h : Only S a b) (k : b.grownBy c row) (hr : ∀ i, row = some i -> i < a.heap.size -> S i) : Only S a c := h.trans (Only.gV k) (fun i hx hi => hr i hx.symm hi)
theorem Only.alloc {S : Nat -> Prop} {a b : World} (h : Only S a b) (o : Obj) : Only S a (b.alloc o) := h.below ((Below.refl _ _).alloc (Nat.le_refl _) o)
theorem Only.drewN {S : Nat -> Prop} {a b : World} (h : Only S a b) (n : Nat) : Only S a (b.drewN n) := ⟨h.os, h.tape, h.output, h.size, h.block⟩
theorem Only.drew {S : Nat -> Prop} {a b : World} (h : Only S a b) : Only S a b.drew := ⟨h.os, h.tape, h.output, h.size, h.block⟩
theorem Only.zt {S : Nat -> Prop} {a b : World} (h : Only S a.drew b) : Only S a b := ⟨h.os, h.tape, h.output, h.size, h.block⟩
theorem Only.set {S : Nat -> Prop} {a b : World} (h : Only S a b) (t i : Nat) (v : Value) (ht : t < a.heap.size -> S t) : Only S a (b.setCell ⟨t, i, none⟩ v) := h.turns ((Turns.refl t b).set i v) ht
theorem Only.toBelow {S : Nat -> Prop} {B : Nat} {a b : World} (h : Only S a b) (hS : ∀ i, S i -> i < a.heap.size -> B <= i) (hB : B <= a.heap.size) : Below B a b :=
 ⟨h.os, h.tape, h.output, h.size, fun i hi => h.block i (by omega) (fun hx => by have := hS i hx (by omega); omega)⟩
theorem Only.toTurns {S : Nat -> Prop} {t : Nat} {a b : World} (h : Only S a b) (hS : ∀ i, S i -> i < a.heap.size -> i = t) : Turns t a b :=
 ⟨h.os, h.tape, h.output, h.size, fun i hi hn => h.block i hi (fun hx => hn (congrArg some (hS i hx hi)))⟩
theorem Is.only {S : Nat -> Prop} {w w' : World} {b : Nat} {T : TypeId} {cs : List Value} (h : Is w b T cs) (k : Only S w w') (hn : ¬ S b) : Is w' b T cs := by
 unfold Is
 rw [k.block b h.lt hn]
 exact h
theorem ag {S : Nat -> Prop} {w w' : World} {B : Nat} {e : TypeId} {size n : Nat} {v : Value} {xs : List Value} (h : w.ownsRow B e size v n xs) (k : Only S w w') (hn : ∀ i, v.ownBlock = some i -> ¬ S i) : w'.ownsRow B e size v n xs := by
 refine ⟨h.1, ?_⟩
 rcases h.2 with h0 | ⟨g, cap, cur, h0, h1, h2, h3⟩
 . exact .inl h0
 . have hI : Is w g e cur.toList := by unfold Is; simpa using h2
   have := hI.only k (hn g (by rw [h0]; rfl))
   unfold Is at this
   exact .inr ⟨g, cap, cur, h0, h1, by simpa using this, h3⟩
theorem bV {w : World} {B : Nat} {e : TypeId} {size n : Nat} {v : Value} {xs : List Value} (h : w.ownsRow B e size v n xs) : ∃ a m cap, v = .slice a m cap ∧ m = n := by
 rcases h.2 with ⟨rfl, h0⟩ | ⟨g, cap, cur, rfl, _⟩
 . exact ⟨_, _, _, rfl, h0.symm⟩
 . exact ⟨_, _, _, rfl, rfl⟩
theorem Only.gW {B : Nat} {a b : World} (k : Below B a b) : Only (fun i => B <= i) a b := ⟨k.os, k.tape, k.output, k.size, fun i _ hn => k.block i (by omega)⟩
open Go.Maps (Keyed)
def OZ : Value -> Option (DataW Unit × List MemPlace)
 | .pointer (some ⟨b, 0, none⟩) => some (.lit (.int .i64 (b : Int)), [])
 | .pointer none => some (.nil, [])
 | _ => none
theorem O0 (b : Nat) : OZ (ptr b) = some (.lit (.int .i64 (b : Int)), []) := rfl
theorem Ee {v : Value} {b : Int} {ps : List MemPlace} (h : OZ v = some (.lit (.int .i64 b), ps)) : v = ptr b.toNat := by
 unfold OZ at h
 split at h
 . simp at h
   obtain ⟨h, _⟩ := h
   rw [<- h]
   rfl
 . simp at h
 . cases h
theorem Ef {v : Value} {ps : List MemPlace} (h : OZ v = some (.nil, ps)) : v = .pointer none := by
 unfold OZ at h
 split at h
 . simp at h
 . rfl
 . cases h
def bu : Option Nat -> Value
 | some b => ptr b
 | none => .pointer none
def bW (P : Program) (K : TypeId) (w : World) (b n : Nat) (ins : Int -> Option Nat) : Prop :=
 ∃ D : DataW Unit, w.ownsMap P K OZ b n D ∧ ∀ k : Int, (match ins k with
  | some p => Maps.has D (.int .i64 k) = true ∧ D.atKey (.int .i64 k) .nil = .lit (.int .i64 (p : Int))
  | none => Maps.has D (.int .i64 k) = false)
theorem bW.lt {P : Program} {K : TypeId} {w : World} {b n : Nat} {ins : Int -> Option Nat} (h : bW P K w b n ins) : b < w.heap.size := let ⟨_, h, _⟩ := h; h.lt
theorem bW.mono {P : Program} {K : TypeId} {w : World} {b n m : Nat} {ins : Int -> Option Nat} (h : bW P K w b n ins) (hm : n <= m) : bW P K w b m ins := let ⟨D, h, k⟩ := h; ⟨D, h.mono hm, k⟩
theorem bW.only {P : Program} {K : TypeId} {S : Nat -> Prop} {w w' : World} {b n : Nat} {ins : Int -> Option Nat} (h : bW P K w b n ins) (k : Only S w w') (hn : ¬ S b) : bW P K w' b n ins := by
 have hl := h.lt
 obtain ⟨D, ⟨es, clock, hb, h⟩, hk⟩ := h
 exact ⟨D, ⟨es, clock, by rw [k.block b hl hn]; exact hb, h⟩, hk⟩
theorem bW.ne {P : Program} {K T : TypeId} {w : World} {b n c : Nat} {ins : Int -> Option Nat} {cs : List Value} (h : bW P K w b n ins) (hI : Is w c T cs) : b ≠ c := by
 rintro rfl
 obtain ⟨D, ⟨es, clock, hb, _⟩, _⟩ := h
 unfold Is at hI
 rw [hI] at hb
 cases hb
theorem bW.Eg {P : Program} {K : TypeId} {w : World} {b n B m size : Nat} {ins : Int -> Option Nat} {e : TypeId} {v : Value} {xs : List Value} (h : bW P K w b n ins) (ho : w.ownsRow B e size v m xs) : v.ownBlock ≠ some b := by
 rcases ho.2 with ⟨rfl, _⟩ | ⟨g, cap, cur, rfl, _, hg, _⟩
 . simp [Value.ownBlock]
 . have hI : Is w g e cur.toList := by unfold Is; simpa using hg
   have := h.ne hI
   simp [Value.ownBlock]
   exact fun e => this e.symm
theorem bW.made (P : Program) (K : TypeId) (w : World) : bW P K (w.alloc (.map #[] 0)) w.heap.size 0 (fun _ => none) :=
 ⟨.map [], World.ownsMap_made w P K OZ, fun _ => rfl⟩
theorem bW.look {P : Program} {K T E : TypeId} {w : World} {b n : Nat} {ins : Int -> Option Nat} (h : bW P K w b n ins) (L : Keyed P K) (hT : P.underlying T = some (.map K E)) (hz : (zeroValue E).run P w = .ok (.pointer none) w) (k : Int) (hk : keyOf P K (.int .i64 k) = some (.int .i64 k)) :
 (Instr.lookup T (.map (some b)) (.int .i64 k) true).run P w = .ok (.tuple #[bu (ins k), .bool (ins k).isSome]) w ∧ (Instr.lookup T (.map (some b)) (.int .i64 k) false).run P w = .ok (bu (ins k)) w := by
 obtain ⟨D, hD, hv⟩ := h
 obtain ⟨v, ps, h1, h2⟩ := hD.look_ok L hT hz (zd := .nil) (zp := []) rfl hk
 obtain ⟨v', ps', h1', h2'⟩ := hD.lookup L hT hz (zd := .nil) (zp := []) rfl hk
 have := hv k
 cases hi : ins k with
 | none =>
   rw [hi] at this
   simp only at this
   rw [Maps.atKey_of_not_has this] at h2 h2'
   have e := Ef h2
   have e' := Ef h2'
   subst e e'
   rw [this] at h1
   exact ⟨h1, h1'⟩
 | some p =>
   rw [hi] at this
   simp only at this
   rw [this.2] at h2 h2'
   have e := Ee h2
   have e' := Ee h2'
   subst e e'
   rw [this.1] at h1
   exact ⟨h1, h1'⟩
theorem zu (k : Int) : WideAt.IsKeyLit (.int .i64 k) := by trivial
theorem vN {a b : Int} (h : a ≠ b) : (Lit.int .i64 a) ≠ .int .i64 b := fun e => h (by cases e; rfl)
theorem bW.put {P : Program} {K T E : TypeId} {w : World} {b n : Nat} {ins : Int -> Option Nat} (h : bW P K w b n ins) (L : Keyed P K) (hT : P.underlying T = some (.map K E)) (hn : n < maxLen) (k : Int) (hk : keyOf P K (.int .i64 k) = some (.int .i64 k)) (p : Nat) :
 ∃ w', (Instr.mapUpdate T (.map (some b)) (.int .i64 k) (ptr p)).run P w = .ok () w' ∧ bW P K w' b (n + 1) (fun x => if x = k then some p else ins x) ∧ Only (· = b) w w' := by
 obtain ⟨D, hD, hv⟩ := h
 obtain ⟨w', h1, h2, h3⟩ := hD.update L hT hn hk (O0 p)
 refine ⟨w', h1, ⟨_, h2, fun x => ?_⟩, (Only.gV h3).mono (fun i hi => by simpa using hi)⟩
 by_cases hx : x = k
 . subst hx
   simp only [if_true]
   exact ⟨Maps.has_put_same hD.isMap (zu x) _, Maps.atKey_put_same hD.isMap (zu x) _ _⟩
 . simp only [if_neg hx]
   have := hv x
   cases hi : ins x with
   | none => rw [hi] at this; simp only at this ⊢; rw [Maps.has_put_other (vN hx)]; exact this
   | some q => rw [hi] at this; simp only at this ⊢; rw [Maps.has_put_other (vN hx), Maps.atKey_put_other (vN hx)]; exact this
theorem bW.del {P : Program} {K T E : TypeId} {w : World} {b n : Nat} {ins : Int -> Option Nat} (h : bW P K w b n ins) (L : Keyed P K) (hT : P.underlying T = some (.map K E)) (k : Int) (hk : keyOf P K (.int .i64 k) = some (.int .i64 k)) (ty : TypeId) :
 ∃ w', (Builtin.delete_ #[T, K] ty #[.map (some b), .int .i64 k]).run P w = .ok (.tuple #[]) w' ∧ bW P K w' b n (fun x => if x = k then none else ins x) ∧ Only (· = b) w w' := by
 obtain ⟨D, hD, hv⟩ := h
 obtain ⟨w', h1, h2, h3⟩ := hD.drop L hT hk ty
 refine ⟨w', h1, ⟨_, h2, fun x => ?_⟩, (Only.gV h3.grown).mono (fun i hi => by simpa using hi)⟩
 by_cases hx : x = k
 . subst hx
   simp only [if_true]
   exact Maps.has_del_same
 . simp only [if_neg hx]
   have := hv x
   cases hi : ins x with
   | none => rw [hi] at this; simp only at this ⊢; rw [Maps.has_del_other (vN hx)]; exact this
   | some q => rw [hi] at this; simp only at this ⊢; rw [Maps.has_del_other (vN hx), Maps.atKey_del_other (vN hx)]; exact this
end Go.Proofs.YtbkpdapagfjmmaaGreatDoor

namespace Go.Proofs.YtbkpdapagfjmmaaGreatDoor.Lk
theorem Eh : ∀ (l : Bs) (k acc n j : Nat), k <= 4 -> rd k acc l = .ok n j -> ∃ m, n = acc + m * 128 ^ k ∧ wire m = l.take (j - k) ∧ (k = 0 ∨ m ≠ 0) ∧ m < 128 ^ (4 - k)
 | [], k, acc, n, j, _, h => by simp [rd] at h
 | c :: t, k, acc, n, j, hk, h => by
   have hc := c.toNat_lt
   have hof : UInt8.ofNat c.toNat = c := by simp
   rw [rd] at h
   split at h
   . cases h
   . rename_i g
     have hk3 : k <= 3 := by omega
     split at h
     . rename_i g2
       cases h
       refine ⟨c.toNat, by rw [Nat.mod_eq_of_lt g2], ?_, ?_, ?_⟩
       . rw [gu _ g2, show k + 1 - k = 1 from by omega, hof]; rfl
       . by_cases h0 : k = 0
         . exact .inl h0
         . right
           intro e
           apply g
           exact .inr ⟨by omega, by rw [<- hof, e]; rfl⟩
       . rcases UN hk3 with rfl | rfl | rfl | rfl <;> simp <;> omega
     . rename_i g2
       obtain ⟨m, h1, h2, h3, h4⟩ := Eh t (k + 1) _ n j (by omega) h
       have hj := bn _ _ _ _ _ h
       have hm : m ≠ 0 := by rcases h3 with h3 | h3 <;> omega
       refine ⟨c.toNat % 128 + 128 * m, ?_, ?_, .inr (by omega), ?_⟩
       . rw [h1, Nat.pow_succ, Nat.add_mul, Nat.add_assoc]
         congr 2
         rw [Nat.mul_comm (128 ^ k) 128, <- Nat.mul_assoc, Nat.mul_comm m 128]
       . rw [iG _ (by omega), show j - k = (j - (k + 1)) + 1 from by omega, List.take_succ_cons, <- h2]
         congr 1
         . have : 128 + (c.toNat % 128 + 128 * m) % 128 = c.toNat := by omega
           rw [this, hof]
         . congr 1; omega
       . have hk2 : k <= 2 := by
          rcases UN hk3 with rfl | rfl | rfl | rfl
          . omega
          . omega
          . omega
          . simp at h4; omega
         rcases (by omega : k = 0 ∨ k = 1 ∨ k = 2) with rfl | rfl | rfl <;> simp at h4 ⊢ <;> omega
theorem kX {l : Bs} {n j : Nat} (h : rd 0 0 l = .ok n j) : wire n = l.take j ∧ n <= 268435455 := by
 obtain ⟨m, h1, h2, _, h4⟩ := Eh l 0 0 n j (by omega) h
 simp at h1 h2 h4
 subst h1
 exact ⟨h2, by omega⟩
theorem IE {l : Bs} {k st n : Nat} {d : Bs} (h : nx l = .frame k st d n) : Good k st d ∧ packed k st d = l.take n := by
 cases l with
 | nil => cases h
 | cons c t =>
   rw [nx] at h
   split at h
   . cases h
   . rename_i g
     split at h
     . cases h
     . cases h
     . rename_i st' a hr
       split at h
       . cases h
       . rename_i g2
         split at h
         . cases h
         . cases h
         . rename_i n' b hr2
           split at h
           . cases h
           . rename_i g3
             split at h
             . cases h
             . rename_i g4
               split at h
               . cases h
               . rename_i g5
                 split at h
                 . cases h
                 . rename_i g6
                   cases h
                   have c1 := kX hr
                   have c2 := kX hr2
                   have b1 := bn _ _ _ _ _ hr
                   have b2 := bn _ _ _ _ _ hr2
                   rw [List.length_drop] at b2
                   have hdl : ((t.drop (a + b)).take n').length = n' := by rw [List.length_take, List.length_drop]; omega
                   refine ⟨⟨by omega, c1.2, by omega, by simpa using g2, by rw [hdl]; simpa using g4, by simpa using g6⟩, ?_⟩
                   have hof : UInt8.ofNat c.toNat = c := by simp
                   rw [packed, Int.toNat_natCast, Int.toNat_natCast, hdl, c1.1, c2.1, hof, show 1 + a + b + n' = (a + b + n') + 1 from by omega, List.take_succ_cons]
                   congr 1
                   rw [List.take_add, List.take_add]
def eQ (fs : List Fr) : Bs := fs.flatMap fun f => packed f.k f.st f.d
theorem kY : ∀ (l : Bs), (∀ f ∈ (all l).1, Good f.k f.st f.d) ∧ ∃ r, l = eQ (all l).1 ++ r ∧ ((all l).2.1 = 0 -> r.length <= 72) ∧ ((all l).2.1 ≠ 0 -> 0 < r.length) := by
 intro l
 induction h : l.length using Nat.strongRecOn generalizing l with
 | _ n ih =>
   subst h
   cases hx : nx l with
   | more =>
     rw [iU hx]
     exact ⟨by simp, l, by simp [eQ], fun _ => mV hx, by simp⟩
   | err e =>
     rw [mW hx]
     refine ⟨by simp, l, by simp [eQ], fun h => absurd h (oO hx), fun _ => ?_⟩
     cases l with
     | nil => cases hx
     | cons c t => simp
   | frame k st d n =>
     have hb := aV hx
     have hg := IE hx
     obtain ⟨i1, r, i2, i3, i4⟩ := ih (l.drop n).length (by rw [List.length_drop]; omega) (l.drop n) rfl
     rw [ja hx]
     refine ⟨?_, r, ?_, i3, i4⟩
     . intro f hf
       rcases List.mem_cons.1 hf with rfl | hf
       . exact hg.1
       . exact i1 f hf
     . show l = eQ (_ :: _) ++ r
       rw [eQ, List.flatMap_cons, hg.2, List.append_assoc]
       have := List.take_append_drop n l
       rw [i2] at this
       exact this.symm
structure Ow where
 id : Nat
 left : Bs
 cr : Nat
 done : Bool
structure Ot where
 id : Nat
 cr : Nat
 held : Nat
 opn : Bool
 drp : Bool
structure Ev where
 k : Nat
 st : Nat
 n : Nat
 hs : List Hd
 t : Bs
structure En where
 side : Nat
 win : Nat
 out : List Hd
 inn : List Hd
 rest : Bs
 row : List Bs
 own : List Ow
 oth : List Ot
 all : Nat
 room : Nat
 turn : Nat
 iH : Bool
 oK : Bool
 down : Nat
def En.new (side win : Nat) : En := ⟨side, win, [], [], [], [], [], [], 2 * win, 2 * win, 0, false, false, 0⟩
def En.send (e : En) (k st : Nat) (d : Bs) : En := { e with row := e.row ++ [packed k st d] }
def En.back (e : En) (n : Nat) : En := if 0 < n then ({ e with room := e.room + n } : En).send 4 0 (wire n) else e
def En.bT (e : En) : Nat := match e.oth.getLast? with
 | some o => o.id
 | none => 0
def En.bye (e : En) : En := { e.send 7 0 (wire e.bT) with iH := true }
def bK (l : List Ow) (id : Int) : Option Nat := l.findIdx? fun o => decide ((o.id : Int) = id)
def bM (l : List Ot) (id : Int) : Option Nat := l.findIdx? fun o => decide ((o.id : Int) = id)
def En.iy (e : En) (t : Bs) : Nat × En := if e.down ≠ 0 then (13, e) else if t.length ≠ 8 then (6, e) else (0, e.send 5 0 t)
def En.iC (e : En) : Nat × En := if e.down ≠ 0 then (13, e) else if e.iH then (12, e) else (0, e.bye)
def En.busy (e : En) : Nat := (e.own.filter fun o => !o.done).length
def En.nextId (e : En) : Nat := 2 * e.own.length + 1 + e.side
def En.aW (e : En) (l : List Hd) (body : Bs) : (Nat × Nat × Nat) × En :=
 if e.down ≠ 0 then ((0, 13, 0), e)
 else if e.iH || e.oK then ((0, 12, 0), e)
 else if (wrong l).1 ≠ 0 then ((0, (wrong l).1, (wrong l).2), e)
 else if 64 < (squeeze 100 e.out l).1.length ∨ 300 < body.length then ((0, 5, 0), e)
 else if 4 <= e.busy ∨ 268435455 < e.nextId then ((0, 11, 0), e)
 else ((e.nextId, 0, 0), ({ e with out := (squeeze 100 e.out l).2, own := e.own ++ [⟨e.nextId, body, e.win, false⟩] } : En).send 0 e.nextId (squeeze 100 e.out l).1)
def Ot.eat (o : Ot) (n : Nat) : Ot := { o with held := o.held - n, cr := if o.opn then o.cr + n else o.cr }
def En.aP (e : En) (st n : Int) : Nat × En :=
 if e.down ≠ 0 then (13, e)
 else if n < 1 then (1, e)
 else match bM e.oth st with
  | none => (14, e)
  | some i => match e.oth[i]? with
    | none => (14, e)
    | some o => if (o.held : Int) < n then (14, e) else
      let e1 := ({ e with oth := e.oth.set i (o.eat n.toNat), room := e.room + n.toNat } : En).send 4 0 (wire n.toNat)
      (0, if o.opn then e1.send 4 o.id (wire n.toNat) else e1)
def En.dN (e : En) (st code : Int) : Nat × En :=
 if e.down ≠ 0 then (13, e)
 else if code < 0 ∨ 268435455 < code then (1, e)
 else match (bK e.own st).bind fun i => (e.own[i]?).bind fun o => if o.done then none else some (i, o) with
  | some (i, o) => (0, ({ e with own := e.own.set i { o with done := true } } : En).send 3 o.id (wire code.toNat))
  | none => match (bM e.oth st).bind fun i => (e.oth[i]?).bind fun o => if o.opn then some (i, o) else none with
    | some (i, o) => (0, (({ e with oth := e.oth.set i { o with opn := false, drp := true, held := 0 } } : En).send 3 o.id (wire code.toNat)).back o.held)
    | none => (14, e)
def En.may (e : En) (o : Ow) : Bool := !o.done && (o.left.isEmpty || (decide (0 < o.cr) && decide (0 < e.all)))
def En.next (e : En) : Option Nat := match e.own.findIdx? fun o => e.may o && decide (e.turn < o.id) with
 | some i => some i
 | none => e.own.findIdx? e.may
def En.most (e : En) (o : Ow) : Nat := if o.left.isEmpty then 0 else min (min o.left.length 16) (min o.cr e.all)
def En.cu (e : En) (i : Nat) (o : Ow) : Bs × En :=
 let n := e.most o
 (packed ((if n = o.left.length then 2 else 1 : Nat) : Int) o.id (o.left.take n), { e with own := e.own.set i ⟨o.id, o.left.drop n, o.cr - n, o.done || decide (n = o.left.length)⟩, all := e.all - n, turn := o.id })
def En.bG (e : En) : Option (Bs × En) := match e.row with
 | s :: r => some (s, { e with row := r })
 | [] => if e.down ≠ 0 then none else match e.next with
   | none => none
   | some i => match e.own[i]? with
     | none => none
     | some o => some (e.cu i o)
def En.drain : Nat -> En -> Bs × En
 | 0, e => ([], e)
 | n + 1, e => match e.bG with
   | none => ([], e)
   | some (s, e') => (s ++ (En.drain n e').1, (En.drain n e').2)
def numOf (d : Bs) : Nat := match rd 0 0 d with
 | .ok n _ => n
 | _ => 0
def En.gX (e : En) (f : Fr) : List Ev × Nat × En :=
 if f.st ≠ 2 * e.oth.length + 2 - e.side then ([], 4, e)
 else match exR 100 f.d 6 e.inn 0 with
  | .err _ _ => ([], 9, e)
  | .ok hs L => if e.iH then ([], 0, ({ e with inn := L, oth := e.oth ++ [⟨f.st, e.win, 0, false, true⟩] } : En).send 3 f.st (wire 0))
    else ([⟨1, f.st, 0, hs, []⟩], 0, { e with inn := L, oth := e.oth ++ [⟨f.st, e.win, 0, true, false⟩] })
def En.bH (e : En) (f : Fr) : List Ev × Nat × En :=
 match (bM e.oth f.st).bind fun i => (e.oth[i]?).map fun o => (i, o) with
 | none => ([], 4, e)
 | some (i, o) => if !o.opn && !o.drp then ([], 4, e)
   else if o.cr < f.d.length ∨ e.room < f.d.length then ([], 10, e)
   else if o.opn then
    ((if 0 < f.d.length then [⟨2, f.st, 0, [], f.d⟩] else []) ++ (if f.k = 2 then [⟨3, f.st, 0, [], []⟩] else []), 0,
      { e with oth := e.oth.set i { o with cr := o.cr - f.d.length, held := o.held + f.d.length, opn := decide (f.k ≠ 2), drp := o.drp && decide (f.k ≠ 2) }, room := e.room - f.d.length })
   else ([], 0, ({ e with oth := e.oth.set i { o with cr := o.cr - f.d.length, drp := decide (f.k ≠ 2) }, room := e.room - f.d.length } : En).back f.d.length)
def En.dh (e : En) (f : Fr) : List Ev × Nat × En :=
 match (bK e.own f.st).bind fun i => (e.own[i]?).map fun o => (i, o) with
 | some (i, o) => if o.done then ([], 0, e) else ([⟨4, f.st, numOf f.d, [], []⟩], 0, { e with own := e.own.set i { o with done := true } })
 | none => match (bM e.oth f.st).bind fun i => (e.oth[i]?).map fun o => (i, o) with
   | none => ([], 4, e)
   | some (i, o) => if o.opn then ([⟨4, f.st, numOf f.d, [], []⟩], 0, ({ e with oth := e.oth.set i { o with opn := false, held := 0 } } : En).back o.held)
     else ([], 0, { e with oth := e.oth.set i { o with drp := false } })
def En.bU (e : En) (f : Fr) : Nat × En :=
 if f.st = 0 then (if numOf f.d = 0 ∨ 100000 < e.all + numOf f.d then (10, e) else (0, { e with all := e.all + numOf f.d }))
 else match (bK e.own f.st).bind fun i => (e.own[i]?).map fun o => (i, o) with
  | none => (4, e)
  | some (i, o) => if o.done then (0, e)
    else if numOf f.d = 0 ∨ 100000 < o.cr + numOf f.d then (10, e)
    else (0, { e with own := e.own.set i { o with cr := o.cr + numOf f.d } })
def En.frame (e : En) (f : Fr) : List Ev × Nat × En :=
 if f.k = 0 then e.gX f
 else if f.k = 1 ∨ f.k = 2 then e.bH f
 else if f.k = 3 then e.dh f
 else if f.k = 4 then ([], e.bU f)
 else if f.k = 5 then ([], 0, e.send 6 0 f.d)
 else if f.k = 6 then ([⟨5, 0, 0, [], f.d⟩], 0, e)
 else ([⟨6, 0, numOf f.d, [], []⟩], 0, { e with oK := true })
def En.frames : En -> List Fr -> List Ev × En
 | e, [] => ([], e)
 | e, f :: l => if e.down ≠ 0 then ([], e) else ((e.frame f).1 ++ (En.frames { (e.frame f).2.2 with down := (e.frame f).2.1 } l).1, (En.frames { (e.frame f).2.2 with down := (e.frame f).2.1 } l).2)
def En.falls (e : En) : En := if e.down ≠ 0 ∧ e.iH = false then e.bye else e
def En.feed (e : En) (b : Bs) : List Ev × En :=
 if e.down ≠ 0 then ([], e)
 else
  let a := Lk.all (e.rest ++ b)
  let r := En.frames { e with rest := a.2.2 } a.1
  (r.1, En.falls (if r.2.down = 0 then { r.2 with down := a.2.1 } else r.2))
theorem En.mZ (e : En) (l : List Fr) (h : e.down ≠ 0) : e.frames l = ([], e) := by
 cases l with
 | nil => rfl
 | cons f l => rw [En.frames, if_pos h]
theorem En.ku : ∀ (x y : List Fr) (e : En), e.frames (x ++ y) = ((e.frames x).1 ++ ((e.frames x).2.frames y).1, ((e.frames x).2.frames y).2)
 | [], y, e => by simp [En.frames]
 | f :: x, y, e => by
   rw [List.cons_append, En.frames, En.frames]
   by_cases h : e.down ≠ 0
   . rw [if_pos h, if_pos h]
     simp [En.mZ e y h]
   . rw [if_neg h, if_neg h, En.ku x y]
     simp
def En.at (e : En) (r : Bs) : En := { e with rest := r }
theorem En.O1 (e : En) : e.at e.rest = e := rfl
def At3 (x : List Ev × Nat × En) (r : Bs) : List Ev × Nat × En := (x.1, x.2.1, x.2.2.at r)
theorem En.IG (e : En) (n : Nat) (r : Bs) : (e.at r).back n = (e.back n).at r := by
 unfold En.back
 split <;> rfl
theorem En.Lm (e : En) (f : Fr) (r : Bs) : (e.at r).gX f = At3 (e.gX f) r := by
 unfold En.gX
 show (if f.st ≠ 2 * e.oth.length + 2 - e.side then ([], 4, e.at r) else _) = _
 by_cases h : f.st ≠ 2 * e.oth.length + 2 - e.side
 . rw [if_pos h, if_pos h]; rfl
 . rw [if_neg h, if_neg h]
   show (match exR 100 f.d 6 e.inn 0 with | .err _ _ => _ | .ok hs L => _) = _
   cases exR 100 f.d 6 e.inn 0 with
   | err a b => rfl
   | ok hs L =>
     show (if e.iH = true then _ else _) = At3 (if e.iH = true then _ else _) r
     by_cases hb : e.iH = true
     . rw [if_pos hb, if_pos hb]; rfl
     . rw [if_neg hb, if_neg hb]; rfl
theorem En.II (e : En) (f : Fr) (r : Bs) : (e.at r).bH f = At3 (e.bH f) r := by
 unfold En.bH
 show (match (bM e.oth f.st).bind fun i => (e.oth[i]?).map fun o => (i, o) with | none => _ | some (i, o) => _) = At3 (match (bM e.oth f.st).bind fun i => (e.oth[i]?).map fun o => (i, o) with | none => _ | some (i, o) => _) r
 cases (bM e.oth f.st).bind fun i => (e.oth[i]?).map fun o => (i, o) with
 | none => rfl
 | some p =>
   obtain ⟨i, o⟩ := p
   show (if (!o.opn && !o.drp) = true then _ else if o.cr < f.d.length ∨ e.room < f.d.length then _ else if o.opn = true then _ else _) = At3 (if (!o.opn && !o.drp) = true then _ else if o.cr < f.d.length ∨ e.room < f.d.length then _ else if o.opn = true then _ else _) r
   split
   . rfl
   . split
     . rfl
     . split
       . rfl
       . unfold At3
         simp only
         rw [<- En.IG]
         rfl
theorem En.IJ (e : En) (f : Fr) (r : Bs) : (e.at r).dh f = At3 (e.dh f) r := by
 unfold En.dh
 show (match (bK e.own f.st).bind fun i => (e.own[i]?).map fun o => (i, o) with | some (i, o) => _ | none => match (bM e.oth f.st).bind fun i => (e.oth[i]?).map fun o => (i, o) with | none => _ | some (i, o) => _) = At3 (match (bK e.own f.st).bind fun i => (e.own[i]?).map fun o => (i, o) with | some (i, o) => _ | none => match (bM e.oth f.st).bind fun i => (e.oth[i]?).map fun o => (i, o) with | none => _ | some (i, o) => _) r
 cases (bK e.own f.st).bind fun i => (e.own[i]?).map fun o => (i, o) with
 | some p =>
   obtain ⟨i, o⟩ := p
   show (if o.done = true then _ else _) = At3 (if o.done = true then _ else _) r
   split <;> rfl
 | none =>
   cases (bM e.oth f.st).bind fun i => (e.oth[i]?).map fun o => (i, o) with
   | none => rfl
   | some p =>
     obtain ⟨i, o⟩ := p
     show (if o.opn = true then _ else _) = At3 (if o.opn = true then _ else _) r
     split
     . unfold At3
       simp only
       rw [<- En.IG]
       rfl
     . rfl
theorem En.FH (e : En) (f : Fr) (r : Bs) : (e.at r).bU f = ((e.bU f).1, (e.bU f).2.at r) := by
 unfold En.bU
 split
 . show (if numOf f.d = 0 ∨ 100000 < e.all + numOf f.d then _ else _) = ((if numOf f.d = 0 ∨ 100000 < e.all + numOf f.d then _ else _ : Nat × En).1, (if numOf f.d = 0 ∨ 100000 < e.all + numOf f.d then _ else _ : Nat × En).2.at r)
   split <;> rfl
 . show (match (bK e.own f.st).bind fun i => (e.own[i]?).map fun o => (i, o) with | none => _ | some (i, o) => _) = _
   cases (bK e.own f.st).bind fun i => (e.own[i]?).map fun o => (i, o) with
   | none => rfl
   | some p =>
     obtain ⟨i, o⟩ := p
     simp only
     split
     . rfl
     . split <;> rfl
theorem En.xB (e : En) (f : Fr) (r : Bs) : (e.at r).frame f = At3 (e.frame f) r := by
 unfold En.frame
 split
 . exact e.Lm f r
 . split
   . exact e.II f r
   . split
     . exact e.IJ f r
     . split
       . rw [e.FH f r]; rfl
       . split
         . rfl
         . split <;> rfl
theorem En.zA : ∀ (l : List Fr) (e : En) (r : Bs), (e.at r).frames l = ((e.frames l).1, (e.frames l).2.at r)
 | [], e, r => rfl
 | f :: l, e, r => by
   rw [En.frames, En.frames, e.xB f r]
   show (if e.down ≠ 0 then _ else _) = _
   by_cases h : e.down ≠ 0
   . rw [if_pos h, if_pos h]
   . rw [if_neg h, if_neg h]
     have := En.zA l { (e.frame f).2.2 with down := (e.frame f).2.1 } r
     show ((e.frame f).1 ++ (En.frames ({ (e.frame f).2.2 with down := (e.frame f).2.1 }.at r) l).1, (En.frames ({ (e.frame f).2.2 with down := (e.frame f).2.1 }.at r) l).2) = _
     rw [this]
theorem En.vO (e : En) : e.falls.down = e.down := by
 unfold En.falls
 split <;> rfl
theorem En.jP (e : En) (b : Bs) (h : e.down ≠ 0) : e.feed b = ([], e) := by unfold En.feed; rw [if_pos h]
theorem En.IK (e : En) (b : Bs) (hd : e.down = 0) (B : List Fr × Nat × Bs) (hB : Lk.all (e.rest ++ b) = B) :
 e.feed b = ((e.frames B.1).1, En.falls (if (e.frames B.1).2.down = 0 then { (e.frames B.1).2.at B.2.2 with down := B.2.1 } else (e.frames B.1).2.at B.2.2)) := by
 unfold En.feed
 rw [if_neg (by rw [hd]; simp), hB]
 have := e.zA B.1 B.2.2
 show ((En.frames (e.at B.2.2) B.1).1, En.falls (if (En.frames (e.at B.2.2) B.1).2.down = 0 then { (En.frames (e.at B.2.2) B.1).2 with down := B.2.1 } else (En.frames (e.at B.2.2) B.1).2)) = _
 rw [this]
 rfl
end Go.Proofs.YtbkpdapagfjmmaaGreatDoor.Lk

namespace Go.Proofs.YtbkpdapagfjmmaaGreatDoor
open Go.RowKit
theorem gZ (a b n : Int) (w : World) :
 Calls Tryz.prog 128 #[.agg #[.int .i64 a, .int .i64 b], .int .i64 n] w fun e w' => e = .returned (.bool (decide (a <= n ∧ n <= b))) ∧ Below w.heap.size w w' := by
 go_enter Tryz.func128, Tryz.ntmps128
 go_wp2
 all_goals go_ret
 all_goals refine ⟨aH ?_, ?_⟩
 all_goals first | ((repeat' (first | exact Below.refl _ _ | assumption | apply Below.drew | apply Below.alloc | apply Below.setCell)) <;> (simp <;> omega)) | (simp_all; done)
end Go.Proofs.YtbkpdapagfjmmaaGreatDoor
