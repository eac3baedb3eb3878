import Derived.Test.YtbkpdapagfjmmaaGreatDoorMFQJ5
import Derived.Test.YtbkpdapagfjmmaaGreatDoorMFOS1
import Derived.Test.YtbkpdapagfjmmaaGreatDoorMPHT4
/-
  Walks: bytes of one side come to the other one.
-/
namespace Go.Proofs.YtbkpdapagfjmmaaGreatDoor
open Go.RowKit

theorem bs_takeJ (p : Lk.Bs) (n : Nat) : (bs p).extract 0 n = bs (p.take n) := by
  apply ByteArray.ext
  apply Array.toList_inj.1
  have h1 : ((bs p).extract 0 n).data.toList = p.take n := by
    rw [extract_list, bs_list]
    simp
  rw [h1]
  exact (bs_list _).symm
theorem bs_dropJ (p : Lk.Bs) (n : Nat) : (bs p).extract n (bs p).size = bs (p.drop n) := by
  apply ByteArray.ext
  apply Array.toList_inj.1
  have h1 : ((bs p).extract n (bs p).size).data.toList = p.drop n := by
    rw [extract_list, bs_list, bs_size]
    rw [List.take_of_length_le (by rw [List.length_drop]; omega)]
  rw [h1]
  exact (bs_list _).symm
/-- How many bytes come. -/
def mvN (n : Int) (p : Lk.Bs) : Nat := if n < 0 ∨ (p.length : Int) < n then p.length else n.toNat
theorem mvN_le (n : Int) (p : Lk.Bs) : mvN n p ≤ p.length := by
  unfold mvN
  split <;> omega

def MvPost (w0 : World) (P g cap : Nat) (sd eb : Nat → Nat) (e : Nat → Lk.En) (ml : Nat → List Ms) (pipe : Nat → Lk.Bs) (n k j N : Nat) (w' : World) : Prop :=
  ∃ d' mv' ml', JP w0 P g cap sd eb (upd e j ((e j).feed ((pipe k).take N)).2) d' mv' ml' (upd pipe k ((pipe k).drop N)) w' ∧ JS (upd e j ((e j).feed ((pipe k).take N)).2) (upd pipe k ((pipe k).drop N)) ml' (n + 1)
    ∧ (∀ q, q < 2 → hsL (ml' q) = hsL (ml q) ∧ bdF (ml' q) = bdF (ml q) ∧ etF (ml' (q + 2)) = etF (ml (q + 2))) ∧ gtL (ml' (j + 2)) = gtL (ml (j + 2)) ∧ Lk.hearL k (hsL (ml k)) (bdF (ml k)) (gtL (ml (k + 2))) ((e j).feed ((pipe k).take N)).1 = some (gtL (ml' (k + 2)))
theorem bd300 {l l' : List Ms} (h1 : hsL l' = hsL l) (h2 : bdF l' = bdF l) (h : ∀ m ∈ l, m.body.length ≤ 300) : ∀ m ∈ l', m.body.length ≤ 300 := by
  intro m hm
  obtain ⟨i, hi, rfl⟩ := List.getElem_of_mem hm
  have hl : l'.length = l.length := by have := congrArg List.length h1; rwa [hsL_len, hsL_len] at this
  have h3 := congrFun h2 i
  unfold bdF at h3
  rw [List.getElem?_eq_getElem hi, List.getElem?_eq_getElem (by omega)] at h3
  simp only [Option.map_some, Option.getD_some] at h3
  rw [h3]
  exact h _ (List.getElem_mem _)

set_option maxHeartbeats 4000000 in
set_option maxRecDepth 100000 in
theorem move_any (w0 : World) (P g cap : Nat) (sd eb : Nat → Nat) (e : Nat → Lk.En) (d : Nat → PD) (mv : Nat → Value) (ml : Nat → List Ms) (pipe : Nat → Lk.Bs) (n k j : Nat) (c : Int) (w : World) (hk : k < 2) (hj : j < 2) (hkj : k ≠ j) (hn : n ≤ 2 ^ 21) (hbd : ∀ q, q < 2 → ∀ m ∈ ml q, m.body.length ≤ 300) (hJ : JP w0 P g cap sd eb e d mv ml pipe w) (hS : JS e pipe ml n) :
    Calls Tryz.prog 15 #[.pointer (some ⟨P, 0, none⟩), .int .i64 (k : Int), .int .i64 c] w fun r w' => r = .returned (.bool true) ∧ MvPost w0 P g cap sd eb e ml pipe n k j (mvN c (pipe k)) w' := by
  have hjk : (1 : Int) - (k : Int) = (j : Int) := by omega
  have hk1 : (k : Int) < 2 := by omega
  have hj1 : (j : Int) < 2 := by omega
  have hNle := mvN_le c (pipe k)
  have hNdef : (c < 0 ∨ ((bs (pipe k)).size : Int) < c) ∧ mvN c (pipe k) = (bs (pipe k)).size ∨ ¬ (c < 0) ∧ ¬ ((bs (pipe k)).size : Int) < c ∧ c = (mvN c (pipe k) : Int) := by
    unfold mvN
    rw [bs_size]
    split
    · rename_i h; exact .inl ⟨h, rfl⟩
    · rename_i h; exact .inr ⟨by omega, by omega, by omega⟩
  generalize hN : mvN c (pipe k) = N at *
  clear hN
  have hNs : (N : Int) ≤ ((bs (pipe k)).size : Int) := by rw [bs_size]; omega
  have hNn : N ≤ (bs (pipe k)).size := by rw [bs_size]; omega
  have hx := bs_takeJ (pipe k) N
  have hy := bs_dropJ (pipe k) N
  -- the facts
  have p0 : w.cell? ⟨P, 0, none⟩ = some (.slice (some ⟨g, 0, none⟩) 2 cap) := hJ.pr.cell 0
  have pl := hJ.pr.lt
  have rk : w.cell? ⟨g, k, none⟩ = some (.pointer (some ⟨sd k, 0, none⟩)) := pair_at hJ.row hk
  have rj : w.cell? ⟨g, j, none⟩ = some (.pointer (some ⟨sd j, 0, none⟩)) := pair_at hJ.row hj
  have gl : g < w.heap.size := by obtain ⟨t, ht⟩ := hJ.row; exact ht.lt
  have sk3 : w.cell? ⟨sd k, 3, none⟩ = some (.string (bs (pipe k))) := (hJ.side k hk).cell 3
  have skf := (hJ.side k hk).free 3
  have skl := (hJ.side k hk).lt
  have hcap := hJ.cap2
  have hJ1 := hJ.setPipe hk ((pipe k).drop N)
  have hpk : (pipe k).take N ++ (pipe k).drop N = pipe k := List.take_append_drop N (pipe k)
  obtain ⟨hdn, G', hG', hmove⟩ := hS.move hk hj hkj hpk.symm
  have hsm := hS.small hn hk
  have hsj := hS.small hn hj
  have hmass := hS.mass
  have hfl := (e j).feed_len ((pipe k).take N)
  have hrest : (e j).rest.length ≤ 2 ^ 40 := by
    have h2 := (hS.wf (k := 0) (by omega)).1.othLen
    have h3 := (hS.wf (k := 1) (by omega)).1.othLen
    have : j = 0 ∨ j = 1 := by omega
    rcases this with rfl | rfl <;> omega
  have hevl : ((e j).feed ((pipe k).take N)).1.length ≤ 2 ^ 42 := by
    rw [List.length_take] at hfl
    omega
  have hfok := (e j).feed_ok ((pipe k).take N)
  generalize hW1 : w.setCell ⟨sd k, 3, none⟩ (.string (bs ((pipe k).drop N))) = w1 at *
  have HFEED := hide (feed_p (eb j) (e j) (d j) (bs ((pipe k).take N)) w1 (hJ1.pe j hj) hJ1.fx (by rw [bs_size, List.length_take]; omega))
  rw [bs_list, hdn] at HFEED
  have q0 : w1.cell? ⟨P, 0, none⟩ = some (.slice (some ⟨g, 0, none⟩) 2 cap) := hJ1.pr.cell 0
  have qj : w1.cell? ⟨g, j, none⟩ = some (.pointer (some ⟨sd j, 0, none⟩)) := pair_at hJ1.row hj
  have tj : w1.cell? ⟨sd j, 0, none⟩ = some (.pointer (some ⟨eb j, 0, none⟩)) := (hJ1.side j hj).cell 0
  have pl1 := hJ1.pr.lt
  have gl1 : g < w1.heap.size := by obtain ⟨t, ht⟩ := hJ1.row; exact ht.lt
  have sjl1 := (hJ1.side j hj).lt
  have hlen2 : ∀ q, q < 2 → (ml q).length ≤ 2 ^ 30 := fun q hq => by have := hS.len (q := q) (by omega); omega
  have hle := (hS.wf hk).2.2.2
  -- what is behind Feed
  have hafter : ∀ (v : Value) (w2 : World), FPost w1 (eb j) (d j) ((e j).feed ((pipe k).take N)).2 ((e j).feed ((pipe k).take N)).1 v w2 → ∃ (d' : PD) (evs : List EvH), (∀ p ∈ evs, p.1.Ok) ∧ evs.length ≤ 2 ^ 42 ∧ HS w0 P g cap sd eb (upd e j ((e j).feed ((pipe k).take N)).2) (upd d j d') ml (upd pipe k ((pipe k).drop N)) j k w1.heap.size v evs G' 0 mv ml w2 := by
    rintro v w2 ⟨d', evs, f1, f2, f3, f4, f5, f6⟩
    have hcall := hJ1.call hj f2 f5 f6
    have hl : evs.length = ((e j).feed ((pipe k).take N)).1.length := by rw [← f1, List.length_map]
    refine ⟨d', evs, fun p hp => hfok p.1 (by rw [← f1]; exact List.mem_map_of_mem hp), by omega, hcall, f3.row, fun p hp => f3.hds p (List.mem_of_mem_drop hp), f3.apart, fun x hx => ⟨fun hjf => ?_, fun q hq hf => ?_⟩, fun x hx => ?_, fun x hx => (f3.lt x hx).2, fun q _ => ⟨rfl, rfl, rfl⟩, rfl, hle, ?_⟩
    · have h1 := (f3.lt x hx).1
      have h2 := (hJ1.jlo hjf).2
      omega
    · by_cases hqj : q = j
      · subst hqj
        rw [upd_same] at hf
        exact f4 x hx hf
      · rw [upd_other _ _ hqj] at hf
        have h1 := (f3.lt x hx).1
        have h2 := (hJ1.pe q hq).lt x hf
        omega
    · have h1 := (f3.lt x hx).1
      have h2 := hJ1.bel.size
      omega
    · rw [List.drop_zero, f1]
      exact hG'
  have HAFTER := hide hafter
  have HFIN := hide (⟨hG', hmove, hbd, hlen2⟩ : _ ∧ _ ∧ _ ∧ _)
  have HND := hide hNdef
  clear hJ hJ1 hS hdn hG' hmove hsm hsj hmass hfl hrest hevl hfok hafter hbd hlen2 hle hNdef hpk hNle
  go_enter Tryz.func15, Tryz.ntmps15
  go_upto_region 2 with fail
  go_cut [28] (fun s28 wx => wx = w ∧ ∃ t : Bool, s28 = .bool t ∧ (t = true → N = (bs (pipe k)).size) ∧ (t = false → c = (N : Int)))
  case first =>
    rcases unhide HND with ⟨h1, h2⟩ | ⟨h1, h2, h3⟩
    · have HH := hide h2
      clear h2
      by_cases c0 : c < 0
      · clear h1
        go_wp2_with fail
        go_meet
        exact ⟨rfl, _, rfl, fun _ => unhide HH, fun h => by simp at h⟩
      · have h1' : ((bs (pipe k)).size : Int) < c := by omega
        clear h1
        go_wp2_with fail
        go_meet
        exact ⟨rfl, _, rfl, fun _ => unhide HH, fun h => by simp at h⟩
    · have HH := hide h3
      clear h3
      go_wp2_with fail
      go_meet
      exact ⟨rfl, _, rfl, fun h => by simp at h, fun _ => unhide HH⟩
  case rest =>
    obtain ⟨rfl, t, rfl, ht1, ht2⟩ := hcut
    go_upto_if 28 with fail
    go_cut [2] (fun s2 wx => s2 = .int .i64 (N : Int) ∧ wx = wc)
    case first =>
      cases t with
      | true =>
        have hN1 := hide (ht1 rfl)
        clear ht1 ht2
        go_wp2_with fail
        go_meet
        exact ⟨by rw [unhide hN1], rfl⟩
      | false =>
        have hN2 := hide (ht2 rfl)
        clear ht1 ht2
        go_wp2_with fail
        go_meet
        exact ⟨by rw [unhide hN2], rfl⟩
    case rest =>
      clear ht1 ht2
      obtain ⟨rfl, rfl⟩ := hcut
      go_wp2_with fail
      refine (unhide HFEED).mono ?_
      rintro r w2 ⟨v, rfl, hF⟩
      obtain ⟨d', evs, hOk, hl42, hHS⟩ := unhide HAFTER v w2 hF
      obtain ⟨va, vc, hv⟩ := own_any hHS.row
      subst hv
      obtain ⟨_, _, hbd, hlen2⟩ := unhide HFIN
      have HHEAR := hide (hear_any w0 P g cap sd eb _ _ mv ml _ j k w1.heap.size _ evs G' w2 hj hk (Ne.symm hkj) hOk hl42 hlen2 hbd hHS)
      clear hF hOk hl42 hHS hbd hlen2
      go_wp2_with (go_at_call 18; refine (num_any _ _).mono ?_; rintro e w4 ⟨rfl, rfl⟩)
      refine (unhide HHEAR).mono ?_
      rintro r w3 ⟨rfl, mv1, ml1, hH⟩
      go_wp2_with fail
      go_ret
      obtain ⟨hG', hmove, hbd, hlen2⟩ := unhide HFIN
      have hres := hH.res
      rw [List.drop_length] at hres
      have hres' : gtL (ml1 (k + 2)) = G' := Option.some.inj hres
      refine ⟨rfl, _, mv1, ml1, hH.jp, hmove ml1 hH.same hres' hH.gk, hH.same, hH.gk, ?_⟩
      rw [hres']
      exact hG'
end Go.Proofs.YtbkpdapagfjmmaaGreatDoor

/-
  Walks: headers out of names and values.
-/
namespace Go.Proofs.YtbkpdapagfjmmaaGreatDoor
open Go.RowKit

/-- Names and values in turn. -/
def pairs : List ByteArray → List Lk.Hd
  | [] => []
  | [a] => [⟨a.data.toList, []⟩]
  | a :: b :: t => ⟨a.data.toList, b.data.toList⟩ :: pairs t

theorem pairs_len : ∀ (l : List ByteArray), (pairs l).length = (l.length + 1) / 2
  | [] => rfl
  | [a] => by simp [pairs]
  | a :: b :: t => by simp only [pairs, List.length_cons, pairs_len t]; omega
theorem pairs_at : ∀ (l : List ByteArray) (k : Nat) (a : ByteArray), l[2 * k]? = some a → (pairs l)[k]? = some ⟨a.data.toList, match l[2 * k + 1]? with | some b => b.data.toList | none => []⟩
  | [], k, a, h => by simp at h
  | [x], 0, a, h => by simp at h; subst h; rfl
  | [x], k + 1, a, h => by simp at h
  | x :: y :: t, 0, a, h => by simp at h; subst h; rfl
  | x :: y :: t, k + 1, a, h => by
    have e : 2 * (k + 1) = 2 * k + 2 := by omega
    rw [e] at h ⊢
    have := pairs_at t k a (by simpa using h)
    simp only [pairs, List.getElem?_cons_succ] at this ⊢
    rw [this]

/-- A slice of strings that came in. -/
def Strs (w : World) (v : Value) (l : List ByteArray) : Prop :=
  (l = [] ∧ ∃ a c, v = .slice a 0 c) ∨ ∃ g o cap, v = .slice (some ⟨g, o, none⟩) l.length cap ∧ g < w.heap.size ∧ ∀ (i : Nat) (x : ByteArray), l[i]? = some x → w.cell? ⟨g, o + i, none⟩ = some (.string x)
theorem Strs.below {w w' : World} {v : Value} {l : List ByteArray} {B : Nat} (h : Strs w v l) (hb : Below B w w') (hB : w.heap.size ≤ B) : Strs w' v l := by
  rcases h with h | ⟨g, o, cap, h1, h2, h3⟩
  · exact .inl h
  · refine .inr ⟨g, o, cap, h1, Nat.lt_of_lt_of_le h2 hb.size, fun i x hx => ?_⟩
    rw [hb.cell (p := ⟨g, o + i, none⟩) (by simp only; omega)]
    exact h3 i x hx

theorem info_rhd : (Tryz.prog.info? 206).map (fun i => (i.zero, i.size, i.bytes)) = some (some (.agg #[.string ⟨#[]⟩, .string ⟨#[]⟩]), 2, 32) := by kernel_rfl

set_option maxHeartbeats 2000000 in
set_option maxRecDepth 100000 in
theorem heads_some (g o cap : Nat) (l : List ByteArray) (w : World) (hl : l.length ≤ 2 ^ 43) (hg : g < w.heap.size) (hc : Hid (∀ (i : Nat) (x : ByteArray), l[i]? = some x → w.cell? ⟨g, o + i, none⟩ = some (.string x))) :
    Calls Tryz.prog 20 #[.slice (some ⟨g, o, none⟩) l.length cap] w fun e w' => ∃ v', e = .returned v' ∧ w'.ownsRow w.heap.size 112 2 v' (pairs l).length (hdsV (pairs l)) ∧ Below w.heap.size w w' := by
  obtain ⟨i, hi, hz0, hz1, hz2⟩ := info_parts info_hd
  have hpl := pairs_len l
  generalize hP : pairs l = P at *
  have HP := hide hP
  have HPL := hide hpl
  have hPl2 : P.length ≤ 2 ^ 42 := by omega
  clear hP hpl
  go_enter Tryz.func20, Tryz.ntmps20
  go_wp2_with fail
  go_loopw [3, 4] (fun m u wr => ∃ k : Nat, u = .int .i64 ((2 * k : Nat) : Int) ∧ k ≤ P.length ∧ wr.ownsRow w.heap.size 112 2 m k (hdsV (P.take k)) ∧ Below w.heap.size w wr) (fun _ u _ => 2 * P.length - (intOf u).toNat)
  case atStart => exact ⟨0, rfl, by omega, World.ownsRow_nil _ _ _ _, Below.refl _ _⟩
  case round =>
    obtain ⟨k, rfl, hk, hown, hbel⟩ := hrel
    have hsz := hbel.size
    by_cases hlt : 2 * k < l.length
    · have hlt' : ((2 * k : Nat) : Int) < l.length := by omega
      obtain ⟨a, ha⟩ : ∃ a, l[2 * k]? = some a := ⟨_, List.getElem?_eq_getElem hlt⟩
      have hx := pairs_at l k a ha
      have a0 : wr.cell? ⟨g, o + 2 * k, none⟩ = some (.string a) := by rw [hbel.cell (p := ⟨g, o + 2 * k, none⟩) hg]; exact unhide hc _ a ha
      rw [unhide HP] at hx
      by_cases hlt2 : 2 * k + 1 < l.length
      · have hlt2' : ((2 * k : Nat) : Int) + 1 < l.length := by omega
        obtain ⟨b, hb⟩ : ∃ b, l[2 * k + 1]? = some b := ⟨_, List.getElem?_eq_getElem hlt2⟩
        have a1 : wr.cell? ⟨g, o + (2 * k + 1), none⟩ = some (.string b) := by rw [hbel.cell (p := ⟨g, o + (2 * k + 1), none⟩) hg]; exact unhide hc _ b hb
        rw [hb] at hx
        simp only at hx
        generalize hxx : (⟨a.data.toList, b.data.toList⟩ : Lk.Hd) = x at hx
        have hxa : bs x.n = a := by rw [← hxx]; exact bs_of a
        have hxb : bs x.v = b := by rw [← hxx]; exact bs_of b
        rw [← hxa] at a0
        rw [← hxb] at a1
        have HX := hide hx
        have hglt : g < wr.heap.size := by omega
        clear hx hxx hxa hxb ha hb
        go_wp2_with (at_builtin; refine wpList_append_own _ rfl _ _ 42 rfl w.heap.size 112 i _ 2 32 Tryz.underlying42 hi hz0 hz1 hz2 rfl (by decide) _ k (hdsV (P.take k)) rfl (hown.alloc _) ⟨wr.heap.size, 0, none⟩ 1 1 (hdV x) rfl rfl ?hnews ?h1 ?h63 ?hby ?hba ?_)
        case hnews => exact row_cells (built_hd wr _ x)
        case h1 => simp [hdV, Value.oneCell']
        case h63 => unfold maxLen; omega
        case hby => omega
        case hba => first | omega | (simp; omega)
        intro v' w' ho' hg' hn'
        have hb' := (hbel.alloc hsz _).grown hg' (by simp; omega) (fun k hk => (hown.lt k hk).1)
        have hkP : k < P.length := by have := unhide HPL; omega
        have ho2 : w'.ownsRow w.heap.size 112 2 v' (k + 1) (hdsV (P.take (k + 1))) := by
          have e : P.take (k + 1) = P.take k ++ [x] := by rw [List.take_add_one, unhide HX]; rfl
          rw [e, hdsV_append]
          simpa [hdsV] using ho'
        clear ho' hg' hown hbel a0
        go_wp2_with fail
        go_roundw
        case rel => exact ⟨k + 1, by simp; omega, by omega, ho2, hb'⟩
        case measure => simp [intOf]; omega
      · have hlt2' : ¬ ((2 * k : Nat) : Int) + 1 < l.length := by omega
        have hnone : l[2 * k + 1]? = none := List.getElem?_eq_none (by omega)
        rw [hnone] at hx
        simp only at hx
        generalize hxx : (⟨a.data.toList, []⟩ : Lk.Hd) = x at hx
        have hxa : bs x.n = a := by rw [← hxx]; exact bs_of a
        have hxb : (⟨#[]⟩ : ByteArray) = bs x.v := by rw [← hxx]; rfl
        rw [← hxa] at a0
        have HX := hide hx
        have hglt : g < wr.heap.size := by omega
        clear hx hxx hxa ha
        go_wp2_with (at_builtin; refine wpList_append_own _ rfl _ _ 42 rfl w.heap.size 112 i _ 2 32 Tryz.underlying42 hi hz0 hz1 hz2 rfl (by decide) _ k (hdsV (P.take k)) rfl (hown.alloc _) ⟨wr.heap.size, 0, none⟩ 1 1 (hdV x) rfl rfl ?hnews ?h1 ?h63 ?hby ?hba ?_)
        case hnews => exact fun j u h => h
        case h1 => simp [hdV, Value.oneCell']
        case h63 => unfold maxLen; omega
        case hby => omega
        case hba => first | omega | (simp; omega)
        intro v' w' ho' hg' hn'
        have hb' := (hbel.alloc hsz _).grown hg' (by simp; omega) (fun k hk => (hown.lt k hk).1)
        have hkP : k < P.length := by have := unhide HPL; omega
        have ho2 : w'.ownsRow w.heap.size 112 2 v' (k + 1) (hdsV (P.take (k + 1))) := by
          have e : P.take (k + 1) = P.take k ++ [x] := by rw [List.take_add_one, unhide HX]; rfl
          rw [e, hdsV_append]
          simpa [hdsV] using ho'
        clear ho' hg' hown hbel a0
        go_wp2_with fail
        go_roundw
        case rel => exact ⟨k + 1, by simp; omega, by omega, ho2, hb'⟩
        case measure => simp [intOf]; omega
    · have hlt' : ¬ ((2 * k : Nat) : Int) < l.length := by omega
      have hkl : k = P.length := by have := unhide HPL; omega
      have ho2 : wr.ownsRow w.heap.size 112 2 u3 P.length (hdsV P) := by rw [hkl, List.take_length] at hown; exact hown
      clear hown
      go_wp2_with fail
      go_ret
      exact ⟨_, rfl, ho2, hbel⟩

set_option maxHeartbeats 1000000 in
set_option maxRecDepth 100000 in
theorem heads_none (a : Option Addr) (c : Nat) (w : World) :
    Calls Tryz.prog 20 #[.slice a 0 c] w fun e w' => e = .returned (.slice none 0 0) ∧ Below w.heap.size w w' := by
  go_enter Tryz.func20, Tryz.ntmps20
  go_wp2_with fail
  refine wp_loop_rounds 1 ?_
  rw [rounds_succ]
  go_wp2_with fail
  go_ret
  exact ⟨rfl, Below.refl _ _⟩

theorem heads_any (v : Value) (l : List ByteArray) (w : World) (hl : l.length ≤ 2 ^ 43) (hs : Strs w v l) :
    Calls Tryz.prog 20 #[v] w fun e w' => ∃ v', e = .returned v' ∧ w'.ownsRow w.heap.size 112 2 v' (pairs l).length (hdsV (pairs l)) ∧ Below w.heap.size w w' := by
  rcases hs with ⟨rfl, a, c, rfl⟩ | ⟨g, o, cap, rfl, hg, hc⟩
  · refine (heads_none a c w).mono ?_
    rintro e w' ⟨rfl, hb⟩
    exact ⟨_, rfl, World.ownsRow_nil _ _ _ _, hb⟩
  · exact heads_some g o cap l w hl hg (hide hc)

set_option maxHeartbeats 2000000 in
set_option maxRecDepth 100000 in
theorem theirs_some (g o cap : Nat) (l : List ByteArray) (w : World) (hl : l.length ≤ 2 ^ 43) (hg : g < w.heap.size) (hc : Hid (∀ (i : Nat) (x : ByteArray), l[i]? = some x → w.cell? ⟨g, o + i, none⟩ = some (.string x))) :
    Calls Tryz.prog 61 #[.slice (some ⟨g, o, none⟩) l.length cap] w fun e w' => ∃ v', e = .returned v' ∧ w'.ownsRow w.heap.size 206 2 v' (pairs l).length (hdsV (pairs l)) ∧ Below w.heap.size w w' := by
  obtain ⟨i, hi, hz0, hz1, hz2⟩ := info_parts info_rhd
  have hpl := pairs_len l
  generalize hP : pairs l = P at *
  have HP := hide hP
  have HPL := hide hpl
  have hPl2 : P.length ≤ 2 ^ 42 := by omega
  clear hP hpl
  go_enter Tryz.func61, Tryz.ntmps61
  go_wp2_with fail
  go_loopw [3, 4] (fun m u wr => ∃ k : Nat, u = .int .i64 ((2 * k : Nat) : Int) ∧ k ≤ P.length ∧ wr.ownsRow w.heap.size 206 2 m k (hdsV (P.take k)) ∧ Below w.heap.size w wr) (fun _ u _ => 2 * P.length - (intOf u).toNat)
  case atStart => exact ⟨0, rfl, by omega, World.ownsRow_nil _ _ _ _, Below.refl _ _⟩
  case round =>
    obtain ⟨k, rfl, hk, hown, hbel⟩ := hrel
    have hsz := hbel.size
    by_cases hlt : 2 * k < l.length
    · have hlt' : ((2 * k : Nat) : Int) < l.length := by omega
      obtain ⟨a, ha⟩ : ∃ a, l[2 * k]? = some a := ⟨_, List.getElem?_eq_getElem hlt⟩
      have hx := pairs_at l k a ha
      have a0 : wr.cell? ⟨g, o + 2 * k, none⟩ = some (.string a) := by rw [hbel.cell (p := ⟨g, o + 2 * k, none⟩) hg]; exact unhide hc _ a ha
      rw [unhide HP] at hx
      by_cases hlt2 : 2 * k + 1 < l.length
      · have hlt2' : ((2 * k : Nat) : Int) + 1 < l.length := by omega
        obtain ⟨b, hb⟩ : ∃ b, l[2 * k + 1]? = some b := ⟨_, List.getElem?_eq_getElem hlt2⟩
        have a1 : wr.cell? ⟨g, o + (2 * k + 1), none⟩ = some (.string b) := by rw [hbel.cell (p := ⟨g, o + (2 * k + 1), none⟩) hg]; exact unhide hc _ b hb
        rw [hb] at hx
        simp only at hx
        generalize hxx : (⟨a.data.toList, b.data.toList⟩ : Lk.Hd) = x at hx
        have hxa : bs x.n = a := by rw [← hxx]; exact bs_of a
        have hxb : bs x.v = b := by rw [← hxx]; exact bs_of b
        rw [← hxa] at a0
        rw [← hxb] at a1
        have HX := hide hx
        have hglt : g < wr.heap.size := by omega
        clear hx hxx hxa hxb ha hb
        go_wp2_with (at_builtin; refine wpList_append_own _ rfl _ _ 154 rfl w.heap.size 206 i _ 2 32 Tryz.underlying154 hi hz0 hz1 hz2 rfl (by decide) _ k (hdsV (P.take k)) rfl (hown.alloc _) ⟨wr.heap.size, 0, none⟩ 1 1 (hdV x) rfl rfl ?hnews ?h1 ?h63 ?hby ?hba ?_)
        case hnews => exact row_cells (built_hd wr _ x)
        case h1 => simp [hdV, Value.oneCell']
        case h63 => unfold maxLen; omega
        case hby => omega
        case hba => first | omega | (simp; omega)
        intro v' w' ho' hg' hn'
        have hb' := (hbel.alloc hsz _).grown hg' (by simp; omega) (fun k hk => (hown.lt k hk).1)
        have hkP : k < P.length := by have := unhide HPL; omega
        have ho2 : w'.ownsRow w.heap.size 206 2 v' (k + 1) (hdsV (P.take (k + 1))) := by
          have e : P.take (k + 1) = P.take k ++ [x] := by rw [List.take_add_one, unhide HX]; rfl
          rw [e, hdsV_append]
          simpa [hdsV] using ho'
        clear ho' hg' hown hbel a0
        go_wp2_with fail
        go_roundw
        case rel => exact ⟨k + 1, by simp; omega, by omega, ho2, hb'⟩
        case measure => simp [intOf]; omega
      · have hlt2' : ¬ ((2 * k : Nat) : Int) + 1 < l.length := by omega
        have hnone : l[2 * k + 1]? = none := List.getElem?_eq_none (by omega)
        rw [hnone] at hx
        simp only at hx
        generalize hxx : (⟨a.data.toList, []⟩ : Lk.Hd) = x at hx
        have hxa : bs x.n = a := by rw [← hxx]; exact bs_of a
        have hxb : (⟨#[]⟩ : ByteArray) = bs x.v := by rw [← hxx]; rfl
        rw [← hxa] at a0
        have HX := hide hx
        have hglt : g < wr.heap.size := by omega
        clear hx hxx hxa ha
        go_wp2_with (at_builtin; refine wpList_append_own _ rfl _ _ 154 rfl w.heap.size 206 i _ 2 32 Tryz.underlying154 hi hz0 hz1 hz2 rfl (by decide) _ k (hdsV (P.take k)) rfl (hown.alloc _) ⟨wr.heap.size, 0, none⟩ 1 1 (hdV x) rfl rfl ?hnews ?h1 ?h63 ?hby ?hba ?_)
        case hnews => exact fun j u h => h
        case h1 => simp [hdV, Value.oneCell']
        case h63 => unfold maxLen; omega
        case hby => omega
        case hba => first | omega | (simp; omega)
        intro v' w' ho' hg' hn'
        have hb' := (hbel.alloc hsz _).grown hg' (by simp; omega) (fun k hk => (hown.lt k hk).1)
        have hkP : k < P.length := by have := unhide HPL; omega
        have ho2 : w'.ownsRow w.heap.size 206 2 v' (k + 1) (hdsV (P.take (k + 1))) := by
          have e : P.take (k + 1) = P.take k ++ [x] := by rw [List.take_add_one, unhide HX]; rfl
          rw [e, hdsV_append]
          simpa [hdsV] using ho'
        clear ho' hg' hown hbel a0
        go_wp2_with fail
        go_roundw
        case rel => exact ⟨k + 1, by simp; omega, by omega, ho2, hb'⟩
        case measure => simp [intOf]; omega
    · have hlt' : ¬ ((2 * k : Nat) : Int) < l.length := by omega
      have hkl : k = P.length := by have := unhide HPL; omega
      have ho2 : wr.ownsRow w.heap.size 206 2 u3 P.length (hdsV P) := by rw [hkl, List.take_length] at hown; exact hown
      clear hown
      go_wp2_with fail
      go_ret
      exact ⟨_, rfl, ho2, hbel⟩

set_option maxHeartbeats 1000000 in
set_option maxRecDepth 100000 in
theorem theirs_none (a : Option Addr) (c : Nat) (w : World) :
    Calls Tryz.prog 61 #[.slice a 0 c] w fun e w' => e = .returned (.slice none 0 0) ∧ Below w.heap.size w w' := by
  go_enter Tryz.func61, Tryz.ntmps61
  go_wp2_with fail
  refine wp_loop_rounds 1 ?_
  rw [rounds_succ]
  go_wp2_with fail
  go_ret
  exact ⟨rfl, Below.refl _ _⟩

theorem theirs_any (v : Value) (l : List ByteArray) (w : World) (hl : l.length ≤ 2 ^ 43) (hs : Strs w v l) :
    Calls Tryz.prog 61 #[v] w fun e w' => ∃ v', e = .returned v' ∧ w'.ownsRow w.heap.size 206 2 v' (pairs l).length (hdsV (pairs l)) ∧ Below w.heap.size w w' := by
  rcases hs with ⟨rfl, a, c, rfl⟩ | ⟨g, o, cap, rfl, hg, hc⟩
  · refine (theirs_none a c w).mono ?_
    rintro e w' ⟨rfl, hb⟩
    exact ⟨_, rfl, World.ownsRow_nil _ _ _ _, hb⟩
  · exact theirs_some g o cap l w hl hg (hide hc)

end Go.Proofs.YtbkpdapagfjmmaaGreatDoor
