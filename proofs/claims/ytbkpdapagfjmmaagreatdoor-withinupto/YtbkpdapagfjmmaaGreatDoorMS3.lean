import Derived.Test.YtbkpdapagfjmmaaGreatDoorMFOS1
import Derived.Test.YtbkpdapagfjmmaaGreatDoorMPHT4
/-
  Walks: headers out of names and values.
-/
namespace Go.Proofs.YtbkpdapagfjmmaaGreatDoor
open Go.RowKit

/-- Names and values in turn. -/
def pairs : List ByteArray → List Lk.Hd
  | [] => []
  | [a] => [⟨a.data.toList, []⟩]
  | a :: b :: t => ⟨a.data.toList, b.data.toList⟩ :: pairs t

theorem pairs_len : ∀ (l : List ByteArray), (pairs l).length = (l.length + 1) / 2
  | [] => rfl
  | [a] => by simp [pairs]
  | a :: b :: t => by simp only [pairs, List.length_cons, pairs_len t]; omega
theorem pairs_at : ∀ (l : List ByteArray) (k : Nat) (a : ByteArray), l[2 * k]? = some a → (pairs l)[k]? = some ⟨a.data.toList, match l[2 * k + 1]? with | some b => b.data.toList | none => []⟩
  | [], k, a, h => by simp at h
  | [x], 0, a, h => by simp at h; subst h; rfl
  | [x], k + 1, a, h => by simp at h
  | x :: y :: t, 0, a, h => by simp at h; subst h; rfl
  | x :: y :: t, k + 1, a, h => by
    have e : 2 * (k + 1) = 2 * k + 2 := by omega
    rw [e] at h ⊢
    have := pairs_at t k a (by simpa using h)
    simp only [pairs, List.getElem?_cons_succ] at this ⊢
    rw [this]

/-- A slice of strings that came in. -/
def Strs (w : World) (v : Value) (l : List ByteArray) : Prop :=
  (l = [] ∧ ∃ a c, v = .slice a 0 c) ∨ ∃ g o cap, v = .slice (some ⟨g, o, none⟩) l.length cap ∧ g < w.heap.size ∧ ∀ (i : Nat) (x : ByteArray), l[i]? = some x → w.cell? ⟨g, o + i, none⟩ = some (.string x)
theorem Strs.below {w w' : World} {v : Value} {l : List ByteArray} {B : Nat} (h : Strs w v l) (hb : Below B w w') (hB : w.heap.size ≤ B) : Strs w' v l := by
  rcases h with h | ⟨g, o, cap, h1, h2, h3⟩
  · exact .inl h
  · refine .inr ⟨g, o, cap, h1, Nat.lt_of_lt_of_le h2 hb.size, fun i x hx => ?_⟩
    rw [hb.cell (p := ⟨g, o + i, none⟩) (by simp only; omega)]
    exact h3 i x hx

theorem info_rhd : (Tryz.prog.info? 206).map (fun i => (i.zero, i.size, i.bytes)) = some (some (.agg #[.string ⟨#[]⟩, .string ⟨#[]⟩]), 2, 32) := by kernel_rfl

set_option maxHeartbeats 2000000 in
set_option maxRecDepth 100000 in
theorem heads_some (g o cap : Nat) (l : List ByteArray) (w : World) (hl : l.length ≤ 2 ^ 43) (hg : g < w.heap.size) (hc : Hid (∀ (i : Nat) (x : ByteArray), l[i]? = some x → w.cell? ⟨g, o + i, none⟩ = some (.string x))) :
    Calls Tryz.prog 20 #[.slice (some ⟨g, o, none⟩) l.length cap] w fun e w' => ∃ v', e = .returned v' ∧ w'.ownsRow w.heap.size 112 2 v' (pairs l).length (hdsV (pairs l)) ∧ Below w.heap.size w w' := by
  obtain ⟨i, hi, hz0, hz1, hz2⟩ := info_parts info_hd
  have hpl := pairs_len l
  generalize hP : pairs l = P at *
  have HP := hide hP
  have HPL := hide hpl
  have hPl2 : P.length ≤ 2 ^ 42 := by omega
  clear hP hpl
  go_enter Tryz.func20, Tryz.ntmps20
  go_wp2_with fail
  go_loopw [3, 4] (fun m u wr => ∃ k : Nat, u = .int .i64 ((2 * k : Nat) : Int) ∧ k ≤ P.length ∧ wr.ownsRow w.heap.size 112 2 m k (hdsV (P.take k)) ∧ Below w.heap.size w wr) (fun _ u _ => 2 * P.length - (intOf u).toNat)
  case atStart => exact ⟨0, rfl, by omega, World.ownsRow_nil _ _ _ _, Below.refl _ _⟩
  case round =>
    obtain ⟨k, rfl, hk, hown, hbel⟩ := hrel
    have hsz := hbel.size
    by_cases hlt : 2 * k < l.length
    · have hlt' : ((2 * k : Nat) : Int) < l.length := by omega
      obtain ⟨a, ha⟩ : ∃ a, l[2 * k]? = some a := ⟨_, List.getElem?_eq_getElem hlt⟩
      have hx := pairs_at l k a ha
      have a0 : wr.cell? ⟨g, o + 2 * k, none⟩ = some (.string a) := by rw [hbel.cell (p := ⟨g, o + 2 * k, none⟩) hg]; exact unhide hc _ a ha
      rw [unhide HP] at hx
      by_cases hlt2 : 2 * k + 1 < l.length
      · have hlt2' : ((2 * k : Nat) : Int) + 1 < l.length := by omega
        obtain ⟨b, hb⟩ : ∃ b, l[2 * k + 1]? = some b := ⟨_, List.getElem?_eq_getElem hlt2⟩
        have a1 : wr.cell? ⟨g, o + (2 * k + 1), none⟩ = some (.string b) := by rw [hbel.cell (p := ⟨g, o + (2 * k + 1), none⟩) hg]; exact unhide hc _ b hb
        rw [hb] at hx
        simp only at hx
        generalize hxx : (⟨a.data.toList, b.data.toList⟩ : Lk.Hd) = x at hx
        have hxa : bs x.n = a := by rw [← hxx]; exact bs_of a
        have hxb : bs x.v = b := by rw [← hxx]; exact bs_of b
        rw [← hxa] at a0
        rw [← hxb] at a1
        have HX := hide hx
        have hglt : g < wr.heap.size := by omega
        clear hx hxx hxa hxb ha hb
        go_wp2_with (at_builtin; refine wpList_append_own _ rfl _ _ 42 rfl w.heap.size 112 i _ 2 32 Tryz.underlying42 hi hz0 hz1 hz2 rfl (by decide) _ k (hdsV (P.take k)) rfl (hown.alloc _) ⟨wr.heap.size, 0, none⟩ 1 1 (hdV x) rfl rfl ?hnews ?h1 ?h63 ?hby ?hba ?_)
        case hnews => exact row_cells (built_hd wr _ x)
        case h1 => simp [hdV, Value.oneCell']
        case h63 => unfold maxLen; omega
        case hby => omega
        case hba => first | omega | (simp; omega)
        intro v' w' ho' hg' hn'
        have hb' := (hbel.alloc hsz _).grown hg' (by simp; omega) (fun k hk => (hown.lt k hk).1)
        have hkP : k < P.length := by have := unhide HPL; omega
        have ho2 : w'.ownsRow w.heap.size 112 2 v' (k + 1) (hdsV (P.take (k + 1))) := by
          have e : P.take (k + 1) = P.take k ++ [x] := by rw [List.take_add_one, unhide HX]; rfl
          rw [e, hdsV_append]
          simpa [hdsV] using ho'
        clear ho' hg' hown hbel a0
        go_wp2_with fail
        go_roundw
        case rel => exact ⟨k + 1, by simp; omega, by omega, ho2, hb'⟩
        case measure => simp [intOf]; omega
      · have hlt2' : ¬ ((2 * k : Nat) : Int) + 1 < l.length := by omega
        have hnone : l[2 * k + 1]? = none := List.getElem?_eq_none (by omega)
        rw [hnone] at hx
        simp only at hx
        generalize hxx : (⟨a.data.toList, []⟩ : Lk.Hd) = x at hx
        have hxa : bs x.n = a := by rw [← hxx]; exact bs_of a
        have hxb : (⟨#[]⟩ : ByteArray) = bs x.v := by rw [← hxx]; rfl
        rw [← hxa] at a0
        have HX := hide hx
        have hglt : g < wr.heap.size := by omega
        clear hx hxx hxa ha
        go_wp2_with (at_builtin; refine wpList_append_own _ rfl _ _ 42 rfl w.heap.size 112 i _ 2 32 Tryz.underlying42 hi hz0 hz1 hz2 rfl (by decide) _ k (hdsV (P.take k)) rfl (hown.alloc _) ⟨wr.heap.size, 0, none⟩ 1 1 (hdV x) rfl rfl ?hnews ?h1 ?h63 ?hby ?hba ?_)
        case hnews => exact fun j u h => h
        case h1 => simp [hdV, Value.oneCell']
        case h63 => unfold maxLen; omega
        case hby => omega
        case hba => first | omega | (simp; omega)
        intro v' w' ho' hg' hn'
        have hb' := (hbel.alloc hsz _).grown hg' (by simp; omega) (fun k hk => (hown.lt k hk).1)
        have hkP : k < P.length := by have := unhide HPL; omega
        have ho2 : w'.ownsRow w.heap.size 112 2 v' (k + 1) (hdsV (P.take (k + 1))) := by
          have e : P.take (k + 1) = P.take k ++ [x] := by rw [List.take_add_one, unhide HX]; rfl
          rw [e, hdsV_append]
          simpa [hdsV] using ho'
        clear ho' hg' hown hbel a0
        go_wp2_with fail
        go_roundw
        case rel => exact ⟨k + 1, by simp; omega, by omega, ho2, hb'⟩
        case measure => simp [intOf]; omega
    · have hlt' : ¬ ((2 * k : Nat) : Int) < l.length := by omega
      have hkl : k = P.length := by have := unhide HPL; omega
      have ho2 : wr.ownsRow w.heap.size 112 2 u3 P.length (hdsV P) := by rw [hkl, List.take_length] at hown; exact hown
      clear hown
      go_wp2_with fail
      go_ret
      exact ⟨_, rfl, ho2, hbel⟩

set_option maxHeartbeats 1000000 in
set_option maxRecDepth 100000 in
theorem heads_none (a : Option Addr) (c : Nat) (w : World) :
    Calls Tryz.prog 20 #[.slice a 0 c] w fun e w' => e = .returned (.slice none 0 0) ∧ Below w.heap.size w w' := by
  go_enter Tryz.func20, Tryz.ntmps20
  go_wp2_with fail
  refine wp_loop_rounds 1 ?_
  rw [rounds_succ]
  go_wp2_with fail
  go_ret
  exact ⟨rfl, Below.refl _ _⟩

theorem heads_any (v : Value) (l : List ByteArray) (w : World) (hl : l.length ≤ 2 ^ 43) (hs : Strs w v l) :
    Calls Tryz.prog 20 #[v] w fun e w' => ∃ v', e = .returned v' ∧ w'.ownsRow w.heap.size 112 2 v' (pairs l).length (hdsV (pairs l)) ∧ Below w.heap.size w w' := by
  rcases hs with ⟨rfl, a, c, rfl⟩ | ⟨g, o, cap, rfl, hg, hc⟩
  · refine (heads_none a c w).mono ?_
    rintro e w' ⟨rfl, hb⟩
    exact ⟨_, rfl, World.ownsRow_nil _ _ _ _, hb⟩
  · exact heads_some g o cap l w hl hg (hide hc)

set_option maxHeartbeats 2000000 in
set_option maxRecDepth 100000 in
theorem theirs_some (g o cap : Nat) (l : List ByteArray) (w : World) (hl : l.length ≤ 2 ^ 43) (hg : g < w.heap.size) (hc : Hid (∀ (i : Nat) (x : ByteArray), l[i]? = some x → w.cell? ⟨g, o + i, none⟩ = some (.string x))) :
    Calls Tryz.prog 61 #[.slice (some ⟨g, o, none⟩) l.length cap] w fun e w' => ∃ v', e = .returned v' ∧ w'.ownsRow w.heap.size 206 2 v' (pairs l).length (hdsV (pairs l)) ∧ Below w.heap.size w w' := by
  obtain ⟨i, hi, hz0, hz1, hz2⟩ := info_parts info_rhd
  have hpl := pairs_len l
  generalize hP : pairs l = P at *
  have HP := hide hP
  have HPL := hide hpl
  have hPl2 : P.length ≤ 2 ^ 42 := by omega
  clear hP hpl
  go_enter Tryz.func61, Tryz.ntmps61
  go_wp2_with fail
  go_loopw [3, 4] (fun m u wr => ∃ k : Nat, u = .int .i64 ((2 * k : Nat) : Int) ∧ k ≤ P.length ∧ wr.ownsRow w.heap.size 206 2 m k (hdsV (P.take k)) ∧ Below w.heap.size w wr) (fun _ u _ => 2 * P.length - (intOf u).toNat)
  case atStart => exact ⟨0, rfl, by omega, World.ownsRow_nil _ _ _ _, Below.refl _ _⟩
  case round =>
    obtain ⟨k, rfl, hk, hown, hbel⟩ := hrel
    have hsz := hbel.size
    by_cases hlt : 2 * k < l.length
    · have hlt' : ((2 * k : Nat) : Int) < l.length := by omega
      obtain ⟨a, ha⟩ : ∃ a, l[2 * k]? = some a := ⟨_, List.getElem?_eq_getElem hlt⟩
      have hx := pairs_at l k a ha
      have a0 : wr.cell? ⟨g, o + 2 * k, none⟩ = some (.string a) := by rw [hbel.cell (p := ⟨g, o + 2 * k, none⟩) hg]; exact unhide hc _ a ha
      rw [unhide HP] at hx
      by_cases hlt2 : 2 * k + 1 < l.length
      · have hlt2' : ((2 * k : Nat) : Int) + 1 < l.length := by omega
        obtain ⟨b, hb⟩ : ∃ b, l[2 * k + 1]? = some b := ⟨_, List.getElem?_eq_getElem hlt2⟩
        have a1 : wr.cell? ⟨g, o + (2 * k + 1), none⟩ = some (.string b) := by rw [hbel.cell (p := ⟨g, o + (2 * k + 1), none⟩) hg]; exact unhide hc _ b hb
        rw [hb] at hx
        simp only at hx
        generalize hxx : (⟨a.data.toList, b.data.toList⟩ : Lk.Hd) = x at hx
        have hxa : bs x.n = a := by rw [← hxx]; exact bs_of a
        have hxb : bs x.v = b := by rw [← hxx]; exact bs_of b
        rw [← hxa] at a0
        rw [← hxb] at a1
        have HX := hide hx
        have hglt : g < wr.heap.size := by omega
        clear hx hxx hxa hxb ha hb
        go_wp2_with (at_builtin; refine wpList_append_own _ rfl _ _ 154 rfl w.heap.size 206 i _ 2 32 Tryz.underlying154 hi hz0 hz1 hz2 rfl (by decide) _ k (hdsV (P.take k)) rfl (hown.alloc _) ⟨wr.heap.size, 0, none⟩ 1 1 (hdV x) rfl rfl ?hnews ?h1 ?h63 ?hby ?hba ?_)
        case hnews => exact row_cells (built_hd wr _ x)
        case h1 => simp [hdV, Value.oneCell']
        case h63 => unfold maxLen; omega
        case hby => omega
        case hba => first | omega | (simp; omega)
        intro v' w' ho' hg' hn'
        have hb' := (hbel.alloc hsz _).grown hg' (by simp; omega) (fun k hk => (hown.lt k hk).1)
        have hkP : k < P.length := by have := unhide HPL; omega
        have ho2 : w'.ownsRow w.heap.size 206 2 v' (k + 1) (hdsV (P.take (k + 1))) := by
          have e : P.take (k + 1) = P.take k ++ [x] := by rw [List.take_add_one, unhide HX]; rfl
          rw [e, hdsV_append]
          simpa [hdsV] using ho'
        clear ho' hg' hown hbel a0
        go_wp2_with fail
        go_roundw
        case rel => exact ⟨k + 1, by simp; omega, by omega, ho2, hb'⟩
        case measure => simp [intOf]; omega
      · have hlt2' : ¬ ((2 * k : Nat) : Int) + 1 < l.length := by omega
        have hnone : l[2 * k + 1]? = none := List.getElem?_eq_none (by omega)
        rw [hnone] at hx
        simp only at hx
        generalize hxx : (⟨a.data.toList, []⟩ : Lk.Hd) = x at hx
        have hxa : bs x.n = a := by rw [← hxx]; exact bs_of a
        have hxb : (⟨#[]⟩ : ByteArray) = bs x.v := by rw [← hxx]; rfl
        rw [← hxa] at a0
        have HX := hide hx
        have hglt : g < wr.heap.size := by omega
        clear hx hxx hxa ha
        go_wp2_with (at_builtin; refine wpList_append_own _ rfl _ _ 154 rfl w.heap.size 206 i _ 2 32 Tryz.underlying154 hi hz0 hz1 hz2 rfl (by decide) _ k (hdsV (P.take k)) rfl (hown.alloc _) ⟨wr.heap.size, 0, none⟩ 1 1 (hdV x) rfl rfl ?hnews ?h1 ?h63 ?hby ?hba ?_)
        case hnews => exact fun j u h => h
        case h1 => simp [hdV, Value.oneCell']
        case h63 => unfold maxLen; omega
        case hby => omega
        case hba => first | omega | (simp; omega)
        intro v' w' ho' hg' hn'
        have hb' := (hbel.alloc hsz _).grown hg' (by simp; omega) (fun k hk => (hown.lt k hk).1)
        have hkP : k < P.length := by have := unhide HPL; omega
        have ho2 : w'.ownsRow w.heap.size 206 2 v' (k + 1) (hdsV (P.take (k + 1))) := by
          have e : P.take (k + 1) = P.take k ++ [x] := by rw [List.take_add_one, unhide HX]; rfl
          rw [e, hdsV_append]
          simpa [hdsV] using ho'
        clear ho' hg' hown hbel a0
        go_wp2_with fail
        go_roundw
        case rel => exact ⟨k + 1, by simp; omega, by omega, ho2, hb'⟩
        case measure => simp [intOf]; omega
    · have hlt' : ¬ ((2 * k : Nat) : Int) < l.length := by omega
      have hkl : k = P.length := by have := unhide HPL; omega
      have ho2 : wr.ownsRow w.heap.size 206 2 u3 P.length (hdsV P) := by rw [hkl, List.take_length] at hown; exact hown
      clear hown
      go_wp2_with fail
      go_ret
      exact ⟨_, rfl, ho2, hbel⟩

set_option maxHeartbeats 1000000 in
set_option maxRecDepth 100000 in
theorem theirs_none (a : Option Addr) (c : Nat) (w : World) :
    Calls Tryz.prog 61 #[.slice a 0 c] w fun e w' => e = .returned (.slice none 0 0) ∧ Below w.heap.size w w' := by
  go_enter Tryz.func61, Tryz.ntmps61
  go_wp2_with fail
  refine wp_loop_rounds 1 ?_
  rw [rounds_succ]
  go_wp2_with fail
  go_ret
  exact ⟨rfl, Below.refl _ _⟩

theorem theirs_any (v : Value) (l : List ByteArray) (w : World) (hl : l.length ≤ 2 ^ 43) (hs : Strs w v l) :
    Calls Tryz.prog 61 #[v] w fun e w' => ∃ v', e = .returned v' ∧ w'.ownsRow w.heap.size 206 2 v' (pairs l).length (hdsV (pairs l)) ∧ Below w.heap.size w w' := by
  rcases hs with ⟨rfl, a, c, rfl⟩ | ⟨g, o, cap, rfl, hg, hc⟩
  · refine (theirs_none a c w).mono ?_
    rintro e w' ⟨rfl, hb⟩
    exact ⟨_, rfl, World.ownsRow_nil _ _ _ _, hb⟩
  · exact theirs_some g o cap l w hl hg (hide hc)

end Go.Proofs.YtbkpdapagfjmmaaGreatDoor
