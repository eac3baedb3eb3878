import Derived.Test.YtbkpdapagfjmmaaGreatDoorA0
import Derived.Test.YtbkpdapagfjmmaaGreatDoorA1
import Derived.Test.YtbkpdapagfjmmaaGreatDoorProg
import Derived.Deep.RegionWith
import Derived.Deep.AppendLies
import Derived.Laws.IdiomCopy
import Derived.Lib.SliceRun
import Derived.Deep.RegionLaw
import Derived.Deep.DeepCutAuto
import Derived.Laws.OwnMore
set_option linter.unusedVariables false
set_option maxRecDepth 100000
set_option maxHeartbeats 16000000
namespace Go.Proofs.YtbkpdapagfjmmaaGreatDoor
open Go.RowKit
def bs (l : Lk.Bs) : ByteArray := ⟨l.toArray⟩
def hdV (h : Lk.Hd) : List Value := [.string (bs h.n), .string (bs h.v)]
def aQ (l : List Lk.Hd) : List Value := l.flatMap hdV
abbrev hdA (h : Lk.Hd) : Value := .agg #[.string (bs h.n), .string (bs h.v)]
theorem ax (l : Lk.Bs) : (bs l).size = l.length := by simp [bs, ByteArray.size]
theorem qQ (l : List Lk.Hd) : (aQ l).length = l.length * 2 := by
 induction l with
 | nil => rfl
 | cons f fs ih => simp only [aQ, List.flatMap_cons, List.length_append, hdV, List.length_cons, List.length_nil] at ih ⊢; omega
theorem OY (l : List Lk.Hd) : ∀ (i : Nat) (x : Lk.Hd), l[i]? = some x -> (aQ l)[i * 2]? = some (.string (bs x.n)) ∧ (aQ l)[i * 2 + 1]? = some (.string (bs x.v)) := by
 induction l with
 | nil => intro i x h; simp at h
 | cons f fs ih =>
   intro i x h
   cases i with
   | zero => simp at h; subst h; simp [aQ, hdV]
   | succ i =>
     have := ih i x (by simpa using h)
     simp only [aQ, List.flatMap_cons, hdV] at this ⊢
     have e : (i + 1) * 2 = i * 2 + 2 := by omega
     rw [e]
     simpa using this
theorem dJ (a b : List Lk.Hd) : aQ (a ++ b) = aQ a ++ aQ b := by simp [aQ]
theorem eP {w : World} {B : Nat} {T : TypeId} {v : Value} {l : List Lk.Hd} (h : w.ownsRow B T 2 v l.length (aQ l)) :
 (l = [] ∧ v = .slice none 0 0) ∨ ∃ g cap, v = .slice (some ⟨g, 0, none⟩) l.length cap ∧ B <= g ∧ g < w.heap.size ∧ l.length <= cap ∧ ∀ (i : Nat) (x : Lk.Hd), l[i]? = some x -> w.cell? ⟨g, i * 2, none⟩ = some (.string (bs x.n)) ∧ w.cell? ⟨g, i * 2 + 1, none⟩ = some (.string (bs x.v)) := by
 rcases h.2 with ⟨rfl, h0⟩ | ⟨g, cap, cur, rfl, hB, hg, hn, hc, hs, ht⟩
 . exact .inl ⟨List.eq_nil_of_length_eq_zero h0, rfl⟩
 . have hI : Is w g T cur.toList := by unfold Is; simpa using hg
   refine .inr ⟨g, cap, rfl, hB, hI.lt, hn, fun i x hx => ?_⟩
   have e := OY l i x hx
   have hi : i < l.length := by
    rcases Nat.lt_or_ge i l.length with h | h
    . exact h
    . rw [List.getElem?_eq_none h] at hx; cases hx
   have hc : ∀ j, j < l.length * 2 -> w.cell? ⟨g, j, none⟩ = (aQ l)[j]? := by
    intro j hj
    rw [hI.cell j, <- ht, List.getElem?_take_of_lt hj]
   rw [hc _ (by omega), hc _ (by omega)]
   exact e
theorem jJ {w : World} {B g n cap i : Nat} {T : TypeId} {l : List Lk.Hd} {x : Lk.Hd} (h : w.ownsRow B T 2 (.slice (some ⟨g, 0, none⟩) n cap) n (aQ l)) (hx : l[i]? = some x) :
 g < w.heap.size ∧ w.cell? ⟨g, i * 2, none⟩ = some (.string (bs x.n)) ∧ w.cell? ⟨g, i * 2 + 1, none⟩ = some (.string (bs x.v)) := by
 have hn : n = l.length := by have := h.1; rw [qQ] at this; omega
 subst hn
 rcases eP h with ⟨_, h⟩ | ⟨g', cap', h, _, hg, _, hc⟩
 . cases h
 . cases h
   exact ⟨hg, hc i x hx⟩
def Fx (w : World) : Prop := 0 < w.heap.size ∧ ∀ (i : Nat) (x : Lk.Hd), Lk.jb[i]? = some x -> w.cell? ⟨0, i * 2, none⟩ = some (.string (bs x.n)) ∧ w.cell? ⟨0, i * 2 + 1, none⟩ = some (.string (bs x.v))
theorem Fx.below {w w' : World} {B : Nat} (h : Fx w) (hb : Below B w w') (hB : 0 < B) : Fx w' :=
 ⟨Nat.lt_of_lt_of_le h.1 hb.size, fun i x hx => by rw [hb.cell (p := ⟨0, _, none⟩) hB, hb.cell (p := ⟨0, _, none⟩) hB]; exact h.2 i x hx⟩
theorem Fx.grown {w w' : World} {row : Option Nat} (h : Fx w) (hb : w.grownBy w' row) (hr : some 0 ≠ row) : Fx w' :=
 ⟨Nat.lt_of_lt_of_le h.1 hb.size, fun i x hx => by
  have e : ∀ k, w'.cell? ⟨0, k, none⟩ = w.cell? ⟨0, k, none⟩ := fun k => by simp only [World.cell?]; rw [hb.block 0 h.1 hr]
  rw [e, e]; exact h.2 i x hx⟩
theorem vJ (h : Lk.Hd) (w : World) (hl : h.n.length <= 1000) (hv : h.v.length <= 1000) :
 Calls Tryz.prog 126 #[hdA h] w fun e w' => e = .returned (.int .i64 h.weight) ∧ Below w.heap.size w w' := by
 unfold hdA
 have h1 := ax h.n
 have h2 := ax h.v
 go_enter Tryz.func126, Tryz.ntmps126
 go_wp2_with fail
 go_ret
 refine ⟨je ?_, (Below.refl _ _).alloc (Nat.le_refl _) _⟩
 simp [Lk.Hd.weight]
def bF : Lk.Hd := ⟨[], []⟩
theorem BI (b o i : Nat) (x : Lk.Hd) (w : World) (hi : (i : Int) < 4) (hfx : Fx w) (hx : Lk.jb[i]? = some x) :
 Calls Tryz.prog 184 #[.pointer (some ⟨b, o, none⟩), .int .i64 i] w fun e w' => e = .returned (.tuple #[hdA x, .bool true]) ∧ Below w.heap.size w w' := by
 obtain ⟨h0, hc⟩ := hfx
 obtain ⟨c0, c1⟩ := hc i x hx
 clear hc hx
 have hi2 : i * 2 < 8 := by omega
 go_enter Tryz.func184, Tryz.ntmps184
 go_wp2_with fail
 exact bodyPost_ret (v := .tuple #[hdA x, .bool true]) (by simp [results, Tryz.results184, go_sem, hdA]) rfl ⟨rfl, by ((repeat' (first | exact Below.refl _ _ | assumption | apply Below.drew | apply Below.alloc | apply Below.setCell)) <;> (simp <;> omega))⟩
theorem vK (b o i : Nat) (n cap : Nat) (ad : Option Addr) (w : World) (hb : b < w.heap.size) (hi : ¬ (i : Int) < 4) (hiN : i <= 2 ^ 40) (hv : w.cell? ⟨b, o + 2, none⟩ = some (.slice ad n cap)) (hn : ¬ (i : Int) - 4 < n) :
 Calls Tryz.prog 184 #[.pointer (some ⟨b, o, none⟩), .int .i64 i] w fun e w' => e = .returned (.tuple #[hdA bF, .bool false]) ∧ Below w.heap.size w w' := by
 go_enter Tryz.func184, Tryz.ntmps184
 go_wp2_with fail
 exact bodyPost_ret (v := .tuple #[hdA bF, .bool false]) (by simp [results, Tryz.results184, go_sem, hdA, bF, bs]) rfl ⟨rfl, by ((repeat' (first | exact Below.refl _ _ | assumption | apply Below.drew | apply Below.alloc | apply Below.setCell)) <;> (simp <;> omega))⟩
theorem Fz (b o i : Nat) (x : Lk.Hd) (n cap g : Nat) (w : World) (hb : b < w.heap.size) (hi : ¬ (i : Int) < 4) (hiN : i <= 2 ^ 40) (hv : w.cell? ⟨b, o + 2, none⟩ = some (.slice (some ⟨g, 0, none⟩) n cap)) (hn : (i : Int) - 4 < n) (hg : g < w.heap.size)
 (c0 : w.cell? ⟨g, (i - 4) * 2, none⟩ = some (.string (bs x.n))) (c1 : w.cell? ⟨g, (i - 4) * 2 + 1, none⟩ = some (.string (bs x.v))) :
 Calls Tryz.prog 184 #[.pointer (some ⟨b, o, none⟩), .int .i64 i] w fun e w' => e = .returned (.tuple #[hdA x, .bool true]) ∧ Below w.heap.size w w' := by
 go_enter Tryz.func184, Tryz.ntmps184
 go_wp2_with fail
 exact bodyPost_ret (v := .tuple #[hdA x, .bool true]) (by simp [results, Tryz.results184, go_sem, hdA]) rfl ⟨rfl, by ((repeat' (first | exact Below.refl _ _ | assumption | apply Below.drew | apply Below.alloc | apply Below.setCell)) <;> (simp <;> omega))⟩
theorem rX : (Tryz.prog.info? 112).map (fun i => (i.zero, i.size, i.bytes)) = some (some (.agg #[.string ⟨#[]⟩, .string ⟨#[]⟩]), 2, 32) := by kernel_rfl
theorem IW (g m cap : Nat) (W : World) (hc : ∀ j, j < 2 -> (W.cell? ⟨g, m * 2 + j, none⟩).isSome = true) (hf : ∀ j, j < 2 -> W.frozen? ⟨g, m * 2 + j, none⟩ = false) :
 (Builtin.clear_ #[42] 0 #[.slice (some ⟨g, m * 2, none⟩) 1 cap]).run Tryz.prog W = .ok (.tuple #[]) (W.setCells g (m * 2) [.string ⟨#[]⟩, .string ⟨#[]⟩]) := by
 obtain ⟨i, hi, hz0, hz1, hz2⟩ := info_parts rX
 have hst := run_storeCells_cells (P := Tryz.prog) g (m * 2) [.string ⟨#[]⟩, .string ⟨#[]⟩] 0 W (by simpa using hc) (by simpa using hf) (by simp [Value.oneCell'])
 simp only [Nat.add_zero] at hst
 simp [Builtin.clear_, run_underlying Tryz.underlying42, zeroValue, typeInfo, hi, hz0, Builtin.zeroCells, Value.cells, List.range_succ, hst]
theorem zJ : ∀ (L : List Lk.Hd) (m : Nat), (aQ L).take (m * 2) = aQ (L.take m)
 | [], m => by simp [aQ]
 | x :: L, 0 => by simp [aQ]
 | x :: L, m + 1 => by
   have e : (m + 1) * 2 = m * 2 + 2 := by omega
   have ih := zJ L m
   simp only [aQ] at ih
   simp only [aQ, List.flatMap_cons, List.take_succ_cons, hdV, e]
   simp [ih]
theorem Ep {W : World} {B g m cap : Nat} {L : List Lk.Hd} {cur : Array Value} {x y : Value} (hBg : B <= g) (hL : L.length = m + 1) (hmc : m <= cap) (hcm : cap <= maxLen) (hcs : cur.size = cap * 2) (HT : cur.toList.take ((m + 1) * 2) = aQ L)
 (hI : Is W g 112 ((cur.toList.set (m * 2) x).set (m * 2 + 1) y)) :
 W.ownsRow B 112 2 (.slice (some ⟨g, 0, none⟩) m cap) m (aQ (L.take m)) := by
 refine ⟨by rw [qQ, List.length_take, Nat.min_eq_left (by omega)], .inr ⟨g, cap, _, rfl, hBg, hI, hmc, hcm, by simpa using hcs, ?_⟩⟩
 rw [<- zJ, <- HT, List.take_take, Nat.min_eq_left (by omega)]
 rw [List.toList_toArray, List.take_set_of_le (by omega), List.take_set_of_le (by omega)]
theorem BV (g m cap B : Nat) (L : List Lk.Hd) (w : World) (hL : L.length = m + 1) (hm : m <= 1000)
 (own : w.ownsRow B 112 2 (.slice (some ⟨g, 0, none⟩) (m + 1) cap) (m + 1) (aQ L)) :
 Calls Tryz.prog 185 #[.slice (some ⟨g, 0, none⟩) (m + 1) cap, .int .i64 m, .int .i64 ((m : Int) + 1)] w fun e w' =>
  e = .returned (.slice (some ⟨g, 0, none⟩) m cap) ∧ w'.ownsRow B 112 2 (.slice (some ⟨g, 0, none⟩) m cap) m (aQ (L.take m)) ∧ w.grownBy w' (some g) := by
 obtain ⟨cur, hBg, hg, hn, hcm, hcs, ht⟩ : ∃ cur : Array Value, B <= g ∧ w.heap[g]? = some (.cells cur 112 (0, 0)) ∧ m + 1 <= cap ∧ cap <= maxLen ∧ cur.size = cap * 2 ∧ cur.toList.take ((m + 1) * 2) = aQ L := by
  rcases own.2 with ⟨h, _⟩ | ⟨_, _, cur, h, h1, h2, h3, h4, h5, h6⟩
  . cases h
  . cases h; exact ⟨cur, h1, h2, h3, h4, h5, h6⟩
 have hI : Is w g 112 cur.toList := by unfold Is; simpa using hg
 have hm0 : 0 <= (m : Int) + 1 := by omega
 have hcl := fun c => IW g m c w.drew (fun j hj => by
  have := (hI.drew).cell (m * 2 + j)
  rw [this, List.getElem?_eq_getElem (by simp; omega)]; rfl) (fun j _ => (hI.drew).free _)
 have hI2 := (hI.drew.set (m * 2) (.string ⟨#[]⟩)).set (m * 2 + 1) (.string ⟨#[]⟩)
 have hne : ¬ cap = m := by omega
 have hmc : m <= cap := by omega
 simp only [World.setCells] at hcl
 have HT := hide ht
 have HI2 := hide hI2
 have HI := hide hI
 clear own hg ht hI2 hI
 by_cases hcap : cap = m + 1
 . subst hcap
   go_enter Tryz.func185, Tryz.ntmps185
   go_wp2_with fail
   go_region
   go_wp2_with fail
   go_ret
   exact ⟨rfl, Ep hBg hL hmc hcm hcs (uh HT) (uh HI2), (((Turns.refl g w).drew).set _ _).set _ _⟩
 . go_enter Tryz.func185, Tryz.ntmps185
   go_wp2_with fail
   go_region
   go_wp2_with fail
   go_ret
   exact ⟨rfl, Ep hBg hL hmc hcm hcs (uh HT) (uh HI2), (((Turns.refl g w).drew).set _ _).set _ _⟩
theorem rY (L : List Lk.Hd) : ∀ u ∈ aQ L, u.oneCell' = true := by
 intro u hu
 simp only [aQ, List.mem_flatMap, hdV] at hu
 obtain ⟨x, _, hx⟩ := hu
 simp at hx
 rcases hx with rfl | rfl <;> rfl
theorem iK {w : World} {B : Nat} {T : TypeId} {g n cap : Nat} {xs : List Value} (h : w.ownsRow B T 2 (.slice (some ⟨g, 0, none⟩) n cap) n xs) : ∀ j u, xs[j]? = some u -> w.cell? ((⟨g, 0, none⟩ : Addr).add j) = some u := by
 intro j u hu
 rcases h.2 with ⟨h, _⟩ | ⟨_, _, cur, h, h1, h2, h3, h4, h5, h6⟩
 . cases h
 . cases h
   have hplain : (⟨g, 0, none⟩ : Addr).add j = ⟨g, j, none⟩ := by unfold Addr.add; split <;> simp_all
   have hI : Is w g T cur.toList := by unfold Is; simpa using h2
   rw [hplain, hI.cell j]
   rw [<- h6] at hu
   rw [List.getElem?_take] at hu
   split at hu
   . exact hu
   . cases hu
theorem IX (B : Nat) (v : Value) (L : List Lk.Hd) (w : World) (hl : L.length <= 1000) (own : w.ownsRow B 112 2 v L.length (aQ L)) :
 Calls Tryz.prog 148 #[v] w fun e w' =>
  ∃ v', e = .returned v' ∧ w'.ownsRow w.heap.size 112 2 v' L.length (aQ L) ∧ Below w.heap.size w w' := by
 obtain ⟨i, hi, hz0, hz1, hz2⟩ := info_parts rX
 rcases eP own with ⟨hL, rfl⟩ | ⟨g, cap, rfl, _, hg, hcap, hcells⟩
 . subst hL
   have hq := Go.Lib.run_eql_slice_nil (P := Tryz.prog) w 42 112 none 0 0 0 0 Tryz.underlying42
   simp only [Option.isNone] at hq
   go_enter Tryz.func148, Tryz.ntmps148
   go_wp2_with fail
   go_ret
   exact ⟨_, rfl, World.ownsRow_nil _ _ _ _, Below.refl _ _⟩
 . have hown : (w.alloc (.cells #[] 112)).ownsRow w.heap.size 112 2 (.slice (some ⟨w.heap.size, 0, none⟩) 0 0) 0 [] :=
    ⟨rfl, .inr ⟨w.heap.size, 0, #[], rfl, Nat.le_refl _, heap_alloc_new w _, Nat.le_refl _, Nat.zero_le _, rfl, rfl⟩⟩
   have hq := Go.Lib.run_eql_slice_nil (P := Tryz.prog) w 42 112 (some ⟨g, 0, none⟩) L.length cap 0 0 Tryz.underlying42
   simp only [Option.isNone] at hq
   have HC := hide hcells
   clear hcells
   go_enter Tryz.func148, Tryz.ntmps148
   go_wp2_with (at_builtin; refine wpList_append_own _ rfl _ _ 42 rfl w.heap.size 112 i _ 2 32 Tryz.underlying42 hi hz0 hz1 hz2 rfl (by decide) _ 0 [] rfl hown ⟨g, 0, none⟩ L.length cap (aQ L) rfl (qQ L) ?hnews (rY L) ?h63 ?hby ?hba ?_)
   case hnews => exact iK (own.alloc _)
   case h63 => unfold maxLen; omega
   case hby => omega
   case hba => simp
   intro v' w' ho' hg' hn'
   go_wp2_with fail
   go_ret
   refine ⟨_, rfl, by simpa using ho', ?_⟩
   exact ((Below.refl w.heap.size w).alloc (Nat.le_refl _) _).grown hg' (by simp) (fun k hk => by simp [Value.ownBlock] at hk; omega)
theorem zK {w : World} {B : Nat} {T : TypeId} {size g n cap : Nat} {xs : List Value} (h : w.ownsRow B T size (.slice (some ⟨g, 0, none⟩) n cap) n xs) : ∀ j u, xs[j]? = some u -> w.cell? ((⟨g, 0, none⟩ : Addr).add j) = some u := by
 intro j u hu
 rcases h.2 with ⟨h, _⟩ | ⟨_, _, cur, h, h1, h2, h3, h4, h5, h6⟩
 . cases h
 . cases h
   have hplain : (⟨g, 0, none⟩ : Addr).add j = ⟨g, j, none⟩ := by unfold Addr.add; split <;> simp_all
   have hI : Is w g T cur.toList := by unfold Is; simpa using h2
   rw [hplain, hI.cell j]
   rw [<- h6] at hu
   rw [List.getElem?_take] at hu
   split at hu
   . exact hu
   . cases hu
theorem xI (w : World) (T : TypeId) (x : Lk.Hd) : (w.alloc (.cells #[.string (bs x.n), .string (bs x.v)] T)).ownsRow w.heap.size T 2 (.slice (some ⟨w.heap.size, 0, none⟩) 1 1) 1 (hdV x) :=
 ⟨rfl, .inr ⟨w.heap.size, 1, _, rfl, Nat.le_refl _, heap_alloc_new w _, Nat.le_refl _, by unfold maxLen; omega, rfl, rfl⟩⟩
section
variable {P : Program} (w : World)
theorem xJ {o : Oper} {a : Act} {K : Act -> World -> Prop} {Q : Exit -> Act -> World -> Prop} (s x : Operand) (t : TypeId)
 (ho : o.op = .call { callee := .builtin .append, args := #[s, x], argTypes := #[t, t] })
 (base : Nat) (e : TypeId) (i : TypeInfo) (z : Value) (size bytes : Nat) (ht : P.underlying t = some (.slice e)) (hi : P.info? e = some i) (hz : i.zero = some z)
 (hsize : i.size = size) (hby : i.bytes = bytes) (hzs : z.cells.size = size) (hsz : 0 < size)
 (v : Value) (n : Nat) (xs : List Value) (hs : a.eval s = v) (hown : w.ownsRow base e size v n xs)
 (B' : Nat) (src : Value) (m : Nat) (news : List Value) (hx : a.eval x = src) (hsrc : w.ownsRow B' e size src m news) (h1 : ∀ u ∈ news, u.oneCell' = true)
 (h63 : n + m <= maxLen) (hbytes : (n + m) * bytes <= 140737488355328) (hbase : base <= w.heap.size)
 (h : ∀ v' w', w'.ownsRow base e size v' (n + m) (xs ++ news) -> w.grownBy w' v.ownBlock -> K (a.put o.dst v') w') : Oper.wp P o a w K Q := by
 rcases hsrc.2 with ⟨rfl, rfl⟩ | ⟨g, cap, cur, rfl, _⟩
 . have hr := run_append_owned_none (P := P) w base t o.type e i size ht hi v n xs hown
   obtain rfl : news = [] := List.eq_nil_of_length_eq_zero (by simpa using hsrc.1)
   unfold Oper.wp execOp
   simp only [ho, resolve, invoke, builtin, Sem.run_bind, Sem.run_pure, Result.andThen_ok, List.map_toArray, List.map_cons, List.map_nil, hs, hx, hr]
   exact h v w (by simpa using hown) (World.grownBy.refl w _)
 . exact wp_append_own w s x t ho base e i z size bytes ht hi hz hsize hby hzs hsz v n xs hs hown ⟨g, 0, none⟩ m cap news hx hsrc.1 (zK hsrc) h1 h63 hbytes hbase (fun v' w' h2 h3 _ => h v' w' h2 h3)
theorem rZ {ops : Array Oper} {o : Oper} {a : Act} {K : Act -> World -> Prop} {Q : Exit -> Act -> World -> Prop} {E : Prop} (hgd : o.guard = none) (s x : Operand) (t : TypeId)
 (ho : o.op = .call { callee := .builtin .append, args := #[s, x], argTypes := #[t, t] })
 (base : Nat) (e : TypeId) (i : TypeInfo) (z : Value) (size bytes : Nat) (ht : P.underlying t = some (.slice e)) (hi : P.info? e = some i) (hz : i.zero = some z)
 (hsize : i.size = size) (hby : i.bytes = bytes) (hzs : z.cells.size = size) (hsz : 0 < size)
 (v : Value) (n : Nat) (xs : List Value) (hs : a.eval s = v) (hown : w.ownsRow base e size v n xs)
 (B' : Nat) (src : Value) (m : Nat) (news : List Value) (hx : a.eval x = src) (hsrc : w.ownsRow B' e size src m news) (h1 : ∀ u ∈ news, u.oneCell' = true)
 (h63 : n + m <= maxLen) (hbytes : (n + m) * bytes <= 140737488355328) (hbase : base <= w.heap.size)
 (h : ∀ v' w', w'.ownsRow base e size v' (n + m) (xs ++ news) -> w.grownBy w' v.ownBlock -> K (a.put o.dst v') w') :
 if Region.wanted o (yielded ops a.tmps) = true then Oper.wp P o a w K Q else E := by
 have hw : Region.wanted o (yielded ops a.tmps) = true := by simp [Region.wanted, hgd]
 rw [if_pos hw]
 exact xJ w s x t ho base e i z size bytes ht hi hz hsize hby hzs hsz v n xs hs hown B' src m news hx hsrc h1 h63 hbytes hbase h
end
end Go.Proofs.YtbkpdapagfjmmaaGreatDoor
