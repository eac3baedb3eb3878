import Derived.Test.YtbkpdapagfjmmaaGreatDoorMFOS1
import Derived.Test.YtbkpdapagfjmmaaGreatDoorMSpec16Spec19
import Derived.Test.YtbkpdapagfjmmaaGreatDoorMJ2J4
import Derived.BigRegion
/-
  What is told by an end that is fed piece by piece.
-/
namespace Go.Proofs.YtbkpdapagfjmmaaGreatDoor
open Go.RowKit

theorem take_piece (b : ByteArray) (i j : Nat) (h : i ≤ j) : b.data.toList.take j = b.data.toList.take i ++ (b.extract i j).data.toList := by
  rw [extract_list]
  have := List.take_add (l := b.data.toList) (i := i) (j := j - i)
  rw [show i + (j - i) = j from by omega] at this
  exact this
/-- What was told so far is what is told of the first so many bytes. -/
def Along (E0 : Lk.En) (L : Lk.Bs) (last : Nat) (e1 : Lk.En) (evl : List Lk.Ev) : Prop :=
  ∀ p, (E0.feed (L.take last ++ p)).1 = evl ++ (e1.feed p).1 ∧ (E0.feed (L.take last ++ p)).2.at [] = (e1.feed p).2.at []
theorem Along.start (E0 : Lk.En) (L : Lk.Bs) : Along E0 L 0 E0 [] := fun p => by simp
theorem Along.step {E0 : Lk.En} {L : Lk.Bs} {last next : Nat} {e1 : Lk.En} {evl : List Lk.Ev} {p : Lk.Bs} (h : Along E0 L last e1 evl) (hp : L.take next = L.take last ++ p) : Along E0 L next (e1.feed p).2 (evl ++ (e1.feed p).1) := fun q => by
  obtain ⟨h1, h2⟩ := h (p ++ q)
  obtain ⟨h3, h4⟩ := e1.feed_append p q
  rw [hp, List.append_assoc, h1, h2, h3, h4, List.append_assoc]
  exact ⟨rfl, rfl⟩
theorem Along.end {E0 : Lk.En} {L : Lk.Bs} {last : Nat} {e1 : Lk.En} {evl : List Lk.Ev} (h : Along E0 L last e1 evl) (hl : L.length ≤ last) (hw : Lk.Wf e1) : (E0.feed L).1 = evl ∧ (E0.feed L).2.at [] = e1.at [] := by
  have := h []
  rw [List.append_nil, List.take_of_length_le hl, Lk.En.feed_none hw, List.append_nil] at this
  exact this
theorem Along.len {E0 : Lk.En} {L : Lk.Bs} {last : Nat} {e1 : Lk.En} {evl : List Lk.Ev} (h : Along E0 L last e1 evl) (h0 : E0.rest = []) : evl.length ≤ L.length := by
  have := (h []).1
  have h2 := E0.feed_len (L.take last ++ [])
  rw [this, h0] at h2
  simp at h2
  omega

theorem evsV_at (l : List EvH) : ∀ (i : Nat) (h : i < l.length), (evsV l)[i * 5]? = some (.int .i64 (l[i].1.k : Int)) ∧ (evsV l)[i * 5 + 1]? = some (.int .i64 (l[i].1.st : Int)) ∧ (evsV l)[i * 5 + 2]? = some (.int .i64 (l[i].1.n : Int)) ∧ (evsV l)[i * 5 + 3]? = some l[i].2 ∧ (evsV l)[i * 5 + 4]? = some (.string (bs l[i].1.t)) := by
  induction l with
  | nil => intro i h; simp at h
  | cons f fs ih =>
    intro i h
    cases i with
    | zero => simp [evsV, evV]
    | succ i =>
      have := ih i (by simpa using h)
      simp only [evsV, List.flatMap_cons, List.getElem_cons_succ] at this ⊢
      have e : (i + 1) * 5 = i * 5 + 5 := by omega
      rw [e]
      simpa [evV] using this
/-- What a list of events is, for the walk. -/
theorem owned_evs {w : World} {B : Nat} {v : Value} {l : List EvH} (h : w.ownsRow B 116 5 v l.length (evsV l)) :
    (l = [] ∧ v = .slice none 0 0) ∨ ∃ g cap, v = .slice (some ⟨g, 0, none⟩) l.length cap ∧ B ≤ g ∧ g < w.heap.size ∧ ∀ i (h : i < l.length), w.cell? ⟨g, i * 5, none⟩ = some (.int .i64 (l[i].1.k : Int)) ∧ w.cell? ⟨g, i * 5 + 1, none⟩ = some (.int .i64 (l[i].1.st : Int)) ∧ w.cell? ⟨g, i * 5 + 2, none⟩ = some (.int .i64 (l[i].1.n : Int)) ∧ w.cell? ⟨g, i * 5 + 3, none⟩ = some l[i].2 ∧ w.cell? ⟨g, i * 5 + 4, none⟩ = some (.string (bs l[i].1.t)) := by
  rcases h.2 with ⟨rfl, h0⟩ | ⟨g, cap, cur, rfl, hB, hg, hn, hc, hs, ht⟩
  · exact .inl ⟨List.eq_nil_of_length_eq_zero h0, rfl⟩
  · have hI : Is w g 116 cur.toList := by unfold Is; simpa using hg
    refine .inr ⟨g, cap, rfl, hB, hI.lt, fun i hi => ?_⟩
    have e := evsV_at l i hi
    have hc : ∀ j, j < l.length * 5 → w.cell? ⟨g, j, none⟩ = (evsV l)[j]? := by
      intro j hj
      rw [hI.cell j, ← ht, List.getElem?_take_of_lt hj]
    rw [hc _ (by omega), hc _ (by omega), hc _ (by omega), hc _ (by omega), hc _ (by omega)]
    exact e

theorem below_dn {B : Nat} {w w1 : World} (h : Below B w w1) (n : Nat) : Below B w (w1.drewN n) := ⟨h.os, h.tape, h.output, h.size, h.block⟩
theorem cells_news (w : World) (xs : List Value) (T : TypeId) : ∀ j u, xs[j]? = some u → (w.alloc (.cells xs.toArray T)).drew.cell? ((⟨w.heap.size, 0, none⟩ : Addr).add j) = some u := by
  intro j u hu
  have hplain : (⟨w.heap.size, 0, none⟩ : Addr).add j = ⟨w.heap.size, j, none⟩ := by unfold Addr.add; split <;> simp_all
  rw [hplain]
  have := (Is.new w T xs).cell j
  rw [← hu]
  exact this
end Go.Proofs.YtbkpdapagfjmmaaGreatDoor

/-
  Walks: a side is told events.
-/
namespace Go.Proofs.YtbkpdapagfjmmaaGreatDoor
open Go.RowKit

theorem info_ms : (Tryz.prog.info? 44).map (fun i => (i.zero, i.size, i.bytes)) = some (some (.agg #[.slice none 0 0, .string ⟨#[]⟩, .bool false, .bool false, .bool false, .int .i64 0]), 6, 56) := by kernel_rfl
theorem ev_at {w : World} {B : Nat} {v : Value} {l : List EvH} (h : w.ownsRow B 116 5 v l.length (evsV l)) {i : Nat} (hi : i < l.length) :
    ∃ g cap, v = .slice (some ⟨g, 0, none⟩) l.length cap ∧ g < w.heap.size ∧ w.cell? ⟨g, i * 5, none⟩ = some (.int .i64 (l[i].1.k : Int)) ∧ w.cell? ⟨g, i * 5 + 1, none⟩ = some (.int .i64 (l[i].1.st : Int)) ∧ w.cell? ⟨g, i * 5 + 2, none⟩ = some (.int .i64 (l[i].1.n : Int)) ∧ w.cell? ⟨g, i * 5 + 3, none⟩ = some l[i].2 ∧ w.cell? ⟨g, i * 5 + 4, none⟩ = some (.string (bs l[i].1.t)) := by
  rcases owned_evs h with ⟨h0, _⟩ | ⟨g, cap, h1, _, h2, h3⟩
  · rw [h0] at hi; simp at hi
  · exact ⟨g, cap, h1, h2, h3 i hi⟩
theorem bs_prefix {a b : Lk.Bs} (h : a <+: b) : (bs b).extract 0 (bs a).size = bs a := by
  have h1 : ((bs b).extract 0 (bs a).size).data.toList = a := by
    rw [extract_list, bs_list, bs_size]
    obtain ⟨t, rfl⟩ := h
    simp
  apply ByteArray.ext
  apply Array.toList_inj.1
  rw [h1]
  exact (bs_list a).symm
theorem cells_news3 (w : World) (xs : List Value) (T : TypeId) : ∀ j u, xs[j]? = some u → (w.alloc (.cells xs.toArray T)).cell? ((⟨w.heap.size, 0, none⟩ : Addr).add j) = some u := by
  intro j u hu
  have hplain : (⟨w.heap.size, 0, none⟩ : Addr).add j = ⟨w.heap.size, j, none⟩ := by unfold Addr.add; split <;> simp_all
  rw [hplain]
  have := (Is.new w T xs).cell j
  rw [← hu]
  exact this
/-- What is told of a side's streams that were reset. -/
theorem hear1_one {s : Nat} {H : List (List Lk.Hd)} {bd : Nat → Lk.Bs} {G G1 : List (Lk.Bs × Bool)} {v : Lk.Ev} (h : Lk.hear1 s H bd G v = some G1) (hk : v.k = 1) : v.st = 2 * G.length + 1 + s ∧ H[G.length]? = some v.hs ∧ G1 = G ++ [([], false)] := by
  unfold Lk.hear1 at h
  rw [if_pos hk] at h
  split at h
  · rename_i hx
    cases h
    exact ⟨hx.1, hx.2, rfl⟩
  · cases h
theorem hear1_two {s : Nat} {H : List (List Lk.Hd)} {bd : Nat → Lk.Bs} {G G1 : List (Lk.Bs × Bool)} {v : Lk.Ev} (h : Lk.hear1 s H bd G v = some G1) (hk : v.k = 2 ∨ v.k = 3) : ∃ (n : Nat) (b : Lk.Bs), v.st = 2 * n + 1 + s ∧ G[n]? = some (b, false) ∧ (v.k = 3 → b = bd n ∧ G1 = G.set n (b, true)) ∧ (v.k = 2 → b ++ v.t <+: bd n ∧ G1 = G.set n (b ++ v.t, false)) := by
  unfold Lk.hear1 at h
  rw [if_neg (by omega), if_pos hk] at h
  split at h
  · rename_i hx
    cases hg : G[(v.st - 1 - s) / 2]? with
    | none => rw [hg] at h; cases h
    | some x =>
      rw [hg] at h
      obtain ⟨b, t⟩ := x
      simp only at h
      split at h
      · cases h
      · rename_i ht
        have ht' : t = false := by simpa using ht
        subst ht'
        refine ⟨(v.st - 1 - s) / 2, b, by omega, hg, fun h3 => ?_, fun h2 => ?_⟩
        · rw [if_pos h3] at h
          split at h
          · rename_i hb
            cases h
            exact ⟨hb, rfl⟩
          · cases h
        · rw [if_neg (by omega)] at h
          split at h
          · rename_i hb
            cases h
            exact ⟨hb, rfl⟩
          · cases h
  · cases h

set_option maxHeartbeats 40000000 in
set_option maxRecDepth 100000 in
theorem hear_any (w0 : World) (P g cap : Nat) (sd eb : Nat → Nat) (e : Nat → Lk.En) (d : Nat → PD) (mv : Nat → Value) (ml : Nat → List Ms) (pipe : Nat → Lk.Bs) (k j B : Nat) (v : Value) (evs : List EvH) (G' : List (Lk.Bs × Bool)) (w : World) (hk : k < 2) (hj : j < 2) (hkj : k ≠ j) (hOk : ∀ p ∈ evs, p.1.Ok) (hlen : evs.length ≤ 2 ^ 42) (hml : ∀ q, q < 2 → (ml q).length ≤ 2 ^ 30) (hbd : ∀ q, q < 2 → ∀ m ∈ ml q, m.body.length ≤ 300)
    (hS : HS w0 P g cap sd eb e d ml pipe k j B v evs G' 0 mv ml w) :
    Calls Tryz.prog 39 #[.pointer (some ⟨P, 0, none⟩), v, .int .i64 (k : Int)] w fun r w' => r = .returned (.bool true) ∧ ∃ mv1 ml1, HS w0 P g cap sd eb e d ml pipe k j B v evs G' evs.length mv1 ml1 w' := by
  have hjk : (1 : Int) - (k : Int) = (j : Int) := by omega
  have hk1 : (k : Int) < 2 := by omega
  have hj1 : (j : Int) < 2 := by omega
  obtain ⟨inf, hi, hz0, hz1, hz2⟩ := info_parts info_ms
  obtain ⟨va, vc, hv⟩ := own_any hS.row
  subst hv
  have HS0 := hide hS
  have HOK := hide hOk
  have HML := hide hml
  have HBD := hide hbd
  clear hS hOk hml hbd
  go_enter Tryz.func39, Tryz.ntmps39
  go_wp2_with fail
  go_loopw [7] (fun u wr => ∃ (i : Nat) (mv1 : Nat → Value) (ml1 : Nat → List Ms), u = .int .i64 i ∧ i ≤ evs.length ∧ Hid (HS w0 P g cap sd eb e d ml pipe k j B (.slice va evs.length vc) evs G' i mv1 ml1 wr)) (fun u _ => evs.length - (intOf u).toNat)
  case atStart => exact ⟨0, mv, ml, rfl, Nat.zero_le _, unhide HS0⟩
  case round =>
    clear HS0
    obtain ⟨i, mv1, ml1, rfl, hil, HR⟩ := hrel
    by_cases hlt : i < evs.length
    · have hlt' : (i : Int) < evs.length := by omega
      have hR := unhide HR
      obtain ⟨gl, vcap, hv, hgl, c0, c1, c2, c3, c4⟩ := ev_at hR.row hlt
      obtain ⟨rfl, rfl⟩ : va = some ⟨gl, 0, none⟩ ∧ vc = vcap := by
        injection hv with h1 h2 h3
        exact ⟨h1, h3⟩
      have hevOk := unhide HOK evs[i] (List.getElem_mem hlt)
      obtain ⟨G1, hn1, hn2⟩ := hR.next hlt
      have hskip := fun hx => hR.skip hlt hx
      have hhd := hR.hds evs[i] (by rw [dropCons hlt]; exact List.mem_cons_self)
      obtain ⟨pa, pcap, hpv⟩ := own_any hhd
      have HNX := hide (⟨hn1, hn2, hhd, hevOk⟩ : _ ∧ _ ∧ _ ∧ _)
      have p0 : wr.cell? ⟨P, 0, none⟩ = some (.slice (some ⟨g, 0, none⟩) 2 cap) := hR.jp.pr.cell 0
      have pl := hR.jp.pr.lt
      have rk : wr.cell? ⟨g, k, none⟩ = some (.pointer (some ⟨sd k, 0, none⟩)) := pair_at hR.jp.row hk
      have rj : wr.cell? ⟨g, j, none⟩ = some (.pointer (some ⟨sd j, 0, none⟩)) := pair_at hR.jp.row hj
      have gl2 : g < wr.heap.size := by obtain ⟨t, ht⟩ := hR.jp.row; exact ht.lt
      obtain ⟨ka, kc, hkv⟩ := own_any (hR.jp.ms k (by omega))
      obtain ⟨ja, jc, hjv⟩ := own_any (hR.jp.ms j (by omega))
      obtain ⟨oa, oc, hov⟩ := own_any (hR.jp.ms (j + 2) (by omega))
      have sk1 : wr.cell? ⟨sd k, 1, none⟩ = some (mv1 k) := (hR.jp.side k hk).cell 1
      have sj1 : wr.cell? ⟨sd j, 1, none⟩ = some (mv1 j) := (hR.jp.side j hj).cell 1
      have sj2 : wr.cell? ⟨sd j, 2, none⟩ = some (mv1 (j + 2)) := (hR.jp.side j hj).cell 2
      have skl := (hR.jp.side k hk).lt
      have sjl := (hR.jp.side j hj).lt
      have hcap := hR.jp.cap2
      rw [hkv] at sk1
      rw [hjv] at sj1
      rw [hov] at sj2
      have hlk : (ml1 k).length = (ml k).length := by have := congrArg List.length (hR.same k hk).1; rwa [hsL_len, hsL_len] at this
      have hlj : (ml1 j).length = (ml j).length := by have := congrArg List.length (hR.same j hj).1; rwa [hsL_len, hsL_len] at this
      have hmk := unhide HML k hk
      have hmj := unhide HML j hj
      have HL := hide (⟨hlk, hlj⟩ : _ ∧ _)
      have hlk30 : (ml1 k).length ≤ 2 ^ 30 := by omega
      have hlj30 : (ml1 j).length ≤ 2 ^ 30 := by omega
      have HV := hide (⟨hkv, hjv, hov⟩ : _ ∧ _ ∧ _)
      have HSK := hide hskip
      generalize hev : evs[i] = p at *
      obtain ⟨⟨ek, est, en, ehs, et⟩, ph⟩ := p
      simp only at c0 c1 c2 c3 c4 hpv hevOk
      subst hpv
      have hst := hevOk.st
      have hek := hevOk.k
      simp only at hst hek
      have HEV := hide hev
      have hidx : ∀ (q : Nat) (hq : q < 2) (W : World), Calls Tryz.prog 24 #[.int .i64 (est : Int), .int .i64 (q : Int)] W fun r w' => r = .returned (.int .i64 (ixN (est : Int) q)) ∧ w' = W := fun q hq W => index_any est q hq W (by omega) (by omega)
      have HIX := hide hidx
      clear hv hlk hlj hmk hmj hkv hjv hov hskip hn1 hn2 hhd hevOk hR hev hidx
      have hbW := (Below.refl wr.heap.size wr).alloc (Nat.le_refl _) (.cells #[.int .i64 (ek : Int), .int .i64 (est : Int), .int .i64 (en : Int), .slice pa ehs.length pcap, .string (bs et)] 116)
      have HBW := hide hbW
      clear hbW
      by_cases h4 : ek = 4
      · subst h4
        rcases ixN_nat (st := est) (k := k) with ⟨x, hx, hix⟩ | ⟨hnok, hik⟩
        · have hjm : ixN (est : Int) j = -1 := by
            rcases ixN_nat (st := est) (k := j) with ⟨y, hy, _⟩ | ⟨_, h⟩
            · omega
            · exact h
          have HIJ := hide (unhide HIX j hj)
          have HIK := hide (unhide HIX k hk)
          rw [hjm] at HIJ
          rw [hix] at HIK
          clear hjm hix HIX hx
          by_cases hxl : x < (ml1 k).length
          · as_aux_lemma =>
            have hxl' : (x : Int) < (ml1 k).length := by omega
            obtain ⟨gq, cq, hq, _, hgq, hqc, q0, q1, q2, q3, q4, q5, qf⟩ := owned_mss ((unhide HR).jp.ms k (by omega)) hxl
            have hkv := (unhide HV).1
            rw [hq] at hkv
            obtain ⟨rfl, rfl⟩ : some ⟨gq, 0, none⟩ = ka ∧ cq = kc := by
              injection hkv with h1 h2 h3
              exact ⟨h1, h3⟩
            have hfin := ((unhide HSK ⟨by simp, by simp, by simp⟩).gone hk hq hxl).below ((Below.refl _ _).alloc (Nat.le_refl _) (.cells #[.int .i64 ((4 : Nat) : Int), .int .i64 (est : Int), .int .i64 (en : Int), .slice pa ehs.length pcap, .string (bs et)] 116))
            have HFIN := hide hfin
            have qf4 := qf (x * 6 + 4)
            clear hfin hkv hq q0 q1 q2 q3 q5 qf HSK HNX HV
            go_wp2_with fail
            refine (unhide HIJ _).mono ?_
            rintro r w2 ⟨rfl, rfl⟩
            go_wp2_with fail
            refine (unhide HIK _).mono ?_
            rintro r w3 ⟨rfl, rfl⟩
            go_wp2_with fail
            go_roundw
            case rel => exact ⟨i + 1, _, _, by go_num, by omega, unhide HFIN⟩
            case measure => simp [intOf]; omega
          · as_aux_lemma =>
            have hxl' : ¬ (x : Int) < (ml1 k).length := by omega
            have hfin := (unhide HSK ⟨by simp, by simp, by simp⟩).below (unhide HBW)
            have HFIN := hide hfin
            clear hfin HSK HNX HV
            go_wp2_with fail
            refine (unhide HIJ _).mono ?_
            rintro r w2 ⟨rfl, rfl⟩
            go_wp2_with fail
            refine (unhide HIK _).mono ?_
            rintro r w3 ⟨rfl, rfl⟩
            go_wp2_with fail
            go_roundw
            case rel => exact ⟨i + 1, _, _, by go_num, by omega, unhide HFIN⟩
            case measure => simp [intOf]; omega
        · have HIK := hide (unhide HIX k hk)
          rw [hik] at HIK
          clear hik hnok
          rcases ixN_nat (st := est) (k := j) with ⟨x, hx, hix⟩ | ⟨hnoj, hij⟩
          · have HIJ := hide (unhide HIX j hj)
            rw [hix] at HIJ
            clear hix HIX hx
            by_cases hxl : x < (ml1 j).length
            · as_aux_lemma =>
              have hxl' : (x : Int) < (ml1 j).length := by omega
              obtain ⟨gq, cq, hq, _, hgq, hqc, q0, q1, q2, q3, q4, q5, qf⟩ := owned_mss ((unhide HR).jp.ms j (by omega)) hxl
              have hjv := (unhide HV).2.1
              rw [hq] at hjv
              obtain ⟨rfl, rfl⟩ : some ⟨gq, 0, none⟩ = ja ∧ cq = jc := by
                injection hjv with h1 h2 h3
                exact ⟨h1, h3⟩
              have hfin := ((unhide HSK ⟨by simp, by simp, by simp⟩).gone hj hq hxl).below ((Below.refl _ _).alloc (Nat.le_refl _) (.cells #[.int .i64 ((4 : Nat) : Int), .int .i64 (est : Int), .int .i64 (en : Int), .slice pa ehs.length pcap, .string (bs et)] 116))
              have HFIN := hide hfin
              have qf4 := qf (x * 6 + 4)
              clear hfin hjv hq q0 q1 q2 q3 q5 qf HSK HNX HV
              go_wp2_with fail
              refine (unhide HIJ _).mono ?_
              rintro r w2 ⟨rfl, rfl⟩
              go_wp2_with fail
              refine (unhide HIK _).mono ?_
              rintro r w3 ⟨rfl, rfl⟩
              go_wp2_with fail
              go_roundw
              case rel => exact ⟨i + 1, _, _, by go_num, by omega, unhide HFIN⟩
              case measure => simp [intOf]; omega
            · as_aux_lemma =>
              have hxl' : ¬ (x : Int) < (ml1 j).length := by omega
              have hfin := (unhide HSK ⟨by simp, by simp, by simp⟩).below (unhide HBW)
              have HFIN := hide hfin
              clear hfin HSK HNX HV
              go_wp2_with fail
              refine (unhide HIJ _).mono ?_
              rintro r w2 ⟨rfl, rfl⟩
              go_wp2_with fail
              refine (unhide HIK _).mono ?_
              rintro r w3 ⟨rfl, rfl⟩
              go_wp2_with fail
              go_roundw
              case rel => exact ⟨i + 1, _, _, by go_num, by omega, unhide HFIN⟩
              case measure => simp [intOf]; omega
          · as_aux_lemma =>
            have HIJ := hide (unhide HIX j hj)
            rw [hij] at HIJ
            have hfin := (unhide HSK ⟨by simp, by simp, by simp⟩).below (unhide HBW)
            have HFIN := hide hfin
            clear hfin HSK HNX HV hij hnoj HIX
            go_wp2_with fail
            refine (unhide HIJ _).mono ?_
            rintro r w2 ⟨rfl, rfl⟩
            go_wp2_with fail
            refine (unhide HIK _).mono ?_
            rintro r w3 ⟨rfl, rfl⟩
            go_wp2_with fail
            go_roundw
            case rel => exact ⟨i + 1, _, _, by go_num, by omega, unhide HFIN⟩
            case measure => simp [intOf]; omega
      · have h4' : ((ek : Int) == 4) = false := by simp; omega
        have HIJ := hide (unhide HIX j hj)
        clear HIX
        by_cases h1 : ek = 1
        · subst h1
          obtain ⟨hn1, hn2, hhd, hevOk⟩ := unhide HNX
          obtain ⟨hst1, hH, hG1⟩ := hear1_one hn1 rfl
          rw [gtL_len] at hst1 hH
          simp only at hst1 hH
          subst hG1
          have hsame := ((unhide HR).same j hj).1
          rw [← hsame] at hH
          have hLl : (ml1 (j + 2)).length < (ml1 j).length := by
            have := (List.getElem?_eq_some_iff.1 hH).1
            rwa [hsL_len] at this
          have hix : ixN (est : Int) j = ((ml1 (j + 2)).length : Int) := ixN_of (by omega)
          rw [hix] at HIJ
          obtain ⟨gs, cs, hs, _, hgs, hsc, s0, s1, s2, s3, s4, s5, sf⟩ := owned_mss ((unhide HR).jp.ms j (by omega)) hLl
          have hjv := (unhide HV).2.1
          rw [hs] at hjv
          obtain ⟨rfl, rfl⟩ : some ⟨gs, 0, none⟩ = ja ∧ cs = jc := by
            injection hjv with h1 h2 h3
            exact ⟨h1, h3⟩
          have hhs2 : (ml1 j)[(ml1 (j + 2)).length].hs = ehs := by
            have : (hsL (ml1 j))[(ml1 (j + 2)).length]? = some (ml1 j)[(ml1 (j + 2)).length].hs := by unfold hsL; rw [List.getElem?_map, List.getElem?_eq_getElem hLl]; rfl
            rw [this] at hH
            exact Option.some.inj hH
          have hso := (unhide HR).jp.hds j (by omega) (ml1 j)[(ml1 (j + 2)).length] (List.getElem_mem hLl)
          rw [hhs2] at hso
          generalize (ml1 j)[(ml1 (j + 2)).length].hv = shv at *
          obtain ⟨ha, hcc, hav⟩ := own_any hso
          subst hav
          have hel : ehs.length ≤ 6 := hevOk.hs
          have HAL := hide (fun (W : World) (hb : Below wr.heap.size wr W) => alike_any B w0.heap.size _ _ ehs W (by omega) (own_below hhd hb) (own_below hso hb))
          have HSP := hide (fun (W : World) (hb : Below wr.heap.size wr W) => spoil_any B _ ehs W (by omega) (own_below hhd hb))
          have hLl' : ((ml1 (j + 2)).length : Int) < (ml1 j).length := by omega
          have hL30 : (ml1 (j + 2)).length ≤ 2 ^ 30 := by omega
          have hov := (unhide HV).2.2
          have HGO := hide (⟨hn1, hov⟩ : _ ∧ _)
          clear hn1 hn2 hhd hevOk hst1 hH hsame hix hs hjv s1 s2 s3 s4 s5 sf hhs2 hso hel hov HSK HNX HV h4
          go_wp2_with fail
          refine (unhide HIJ _).mono ?_
          rintro r w2 ⟨rfl, rfl⟩
          go_wp2_with fail
          go_quiet ((go_at_call 76; exact Calls.quiet_of (unhide HAL _ (below_dn ((Below.refl wr.heap.size wr).alloc (Nat.le_refl _) _) _))))
          go_wp2_with fail
          refine (unhide HSP _ (below_dn ((Below.refl wr.heap.size wr).alloc (Nat.le_refl _) _) _)).mono ?_
          rintro r w3 ⟨rfl, hg3⟩
          have hHS1 := (unhide HR).below (below_dn ((Below.refl wr.heap.size wr).alloc (Nat.le_refl _) (.cells #[.int .i64 ((1 : Nat) : Int), .int .i64 (est : Int), .int .i64 (en : Int), .slice pa ehs.length pcap, .string (bs et)] 116)) nq)
          have hg3' := hg3
          rw [show (Value.slice pa ehs.length pcap).ownBlock = evs[i].2.ownBlock by rw [unhide HEV]] at hg3'
          obtain ⟨j1, j2, j3⟩ := hHS1.spoilt hlt hg3'
          have k2 : w3.cell? ⟨sd j, 2, none⟩ = some (mv1 (j + 2)) := (j1.side j hj).cell 2
          have kf := (j1.side j hj).free 2
          have kl := (j1.side j hj).lt
          have ho3 := j1.ms (j + 2) (by omega)
          rw [(unhide HGO).2] at k2 ho3
          have hw03 := j1.bel.size
          have HX3 := hide (⟨hHS1, hg3', j1, ho3⟩ : _ ∧ _ ∧ _ ∧ _)
          clear hHS1 hg3 hg3' j1 j2 j3 ho3
          go_wp2_with (at_builtin; refine wpList_append_lies _ rfl _ _ 35 rfl w0.heap.size 44 inf _ 6 56 Tryz.underlying35 hi hz0 hz1 hz2 rfl (by decide) _ (ml1 (j + 2)).length (mssV (ml1 (j + 2))) rfl ((unhide HX3).2.2.2.alloc _) ⟨w3.heap.size, 0, none⟩ 1 1 [nilS, .string ⟨#[]⟩, .bool true, .bool false, .bool false, .int .i64 0] rfl rfl ?hnews ?h1 (by decide) ?h63 ?hby ?hba _ rfl ?_)
          case hnews => exact cells_news3 w3 _ 44
          case h1 => simp [Value.oneCell']
          case h63 => unfold maxLen; omega
          case hby => omega
          case hba => first | omega | (simp; omega)
          intro g1 cap1 w4 ho4 hg4 hor4 hlt4
          obtain ⟨hHS1, hg3', j1, ho3⟩ := unhide HX3
          have hov := (unhide HGO).2
          have hO4 : Only (fun x => (mv1 (j + 2)).ownBlock = some x) w3 w4 := by
            rw [hov]
            exact ((Only.refl _ w3).alloc _).grown hg4 (fun x hx _ => hx)
          have hor4' : ∀ x, (Value.slice (some ⟨g1, 0, none⟩) ((ml1 (j + 2)).length + 1) cap1).ownBlock = some x → (mv1 (j + 2)).ownBlock = some x ∨ w3.heap.size ≤ x := fun x hx => by
            have hx' : g1 = x := by simpa [Value.ownBlock] using hx
            subst hx'
            rw [hov]
            rcases hor4 with h | h
            · exact .inl h
            · exact .inr (by first | omega | (simp at h; omega))
          have hfin := hHS1.begun hlt (by have h1 := (unhide HL).2; omega) hj hkj hg3' ho4 hO4 hor4' (by rw [unhide HEV]; exact (unhide HGO).1)
          have hside4 := (j1.side j hj).only hO4 (fun e => own_ne (j1.ms (j + 2) (by omega)) (j1.side j hj) (Nat.ne_of_beq_eq_false rfl) e.symm)
          have y2 := hside4.cell 2
          have yf := hside4.free 2
          have yl := hside4.lt
          simp only [List.getElem?_cons_zero, List.getElem?_cons_succ] at y2
          rw [hov] at y2
          have HFIN := hide hfin
          clear hHS1 hg3' j1 ho3 hov hO4 hor4' hfin hside4 ho4 hg4 hor4 HX3
          go_wp2_with fail
          go_roundw
          case rel => exact ⟨i + 1, _, _, by go_num, by omega, unhide HFIN⟩
          case measure => simp [intOf]; omega
        · by_cases h2 : ek = 2
          · as_aux_lemma =>
            subst h2
            obtain ⟨hn1, hn2, hhd, hevOk⟩ := unhide HNX
            obtain ⟨x, bb, hst1, hG, _, hG2⟩ := hear1_two hn1 (.inl rfl)
            obtain ⟨hpre, rfl⟩ := hG2 rfl
            simp only at hst1 hpre hn1
            have hxl : x < (ml1 (j + 2)).length := by
              have := (List.getElem?_eq_some_iff.1 hG).1
              rwa [gtL_len] at this
            have hxm : x < (ml1 j).length := by have h1 := (unhide HL).2; have h2 := (unhide HR).le; omega
            have hxg : (ml1 (j + 2))[x].body = bb ∧ (ml1 (j + 2))[x].en = false := by
              unfold gtL at hG
              rw [List.getElem?_map, List.getElem?_eq_getElem hxl] at hG
              have := Option.some.inj hG
              exact ⟨(Prod.mk.inj this).1, (Prod.mk.inj this).2⟩
            have hxb : bdF (ml j) x = (ml1 j)[x].body := by
              rw [← ((unhide HR).same j hj).2.1]
              unfold bdF
              rw [List.getElem?_eq_getElem hxm]
              rfl
            rw [hxb] at hpre
            have hix : ixN (est : Int) j = (x : Int) := ixN_of (by omega)
            rw [hix] at HIJ
            obtain ⟨gq, cq, hq, _, hgq, hqc, q0, q1, q2, q3, q4, q5, qf⟩ := owned_mss ((unhide HR).jp.ms (j + 2) (by omega)) hxl
            obtain ⟨gs, cs, hs, _, hgs, hsc, s0, s1, s2, s3, s4, s5, sf⟩ := owned_mss ((unhide HR).jp.ms j (by omega)) hxm
            have hjv := (unhide HV).2.1
            have hov := (unhide HV).2.2
            have hne : gs ≠ gq := by
              rcases (unhide HR).jp.nem j (j + 2) (by omega) (by omega) (by omega) with h' | h'
              · rw [hs] at h'; cases h'
              · rw [hs, hq] at h'
                exact fun e => h' (by rw [e]; rfl)
            rw [hs] at hjv
            obtain ⟨rfl, rfl⟩ : some ⟨gs, 0, none⟩ = ja ∧ cs = jc := by
              injection hjv with h1 h2 h3
              exact ⟨h1, h3⟩
            rw [hq] at hov
            obtain ⟨rfl, rfl⟩ : some ⟨gq, 0, none⟩ = oa ∧ cq = oc := by
              injection hov with h1 h2 h3
              exact ⟨h1, h3⟩
            have hgot := (unhide HR).got (m := { (ml1 (j + 2))[x] with body := bb ++ et }) (y := .string (bs (bb ++ et))) hlt hj hkj hq hxl (f := 1) (by omega) rfl rfl rfl rfl (by rw [unhide HEV, hxg.2]; exact hn1)
            have HFIN := hide (hgot.below ((Below.refl _ _).alloc (Nat.le_refl _) (.cells #[.int .i64 ((2 : Nat) : Int), .int .i64 (est : Int), .int .i64 (en : Int), .slice pa ehs.length pcap, .string (bs et)] 116)))
            rw [hxg.1] at q1
            rw [hxg.2] at q3
            have hb300 : bdF (ml j) x = (ml1 j)[x].body → (ml1 j)[x].body.length ≤ 300 := fun e => by
              rw [← e]
              unfold bdF
              have hxj : x < (ml j).length := by have h1 := (unhide HL).2; omega
              rw [List.getElem?_eq_getElem hxj]
              exact unhide HBD j hj _ (List.getElem_mem hxj)
            have hsum : ¬ (bs bb).size + (bs et).size > 9223372036854775807 := by
              rw [bs_size, bs_size]
              have h1 := hpre.length_le
              have h2 := hb300 hxb
              rw [List.length_append] at h1
              omega
            clear hb300
            have hcat := bs_cat bb et
            have hext := bs_prefix hpre
            have hszle : ((bs (bb ++ et)).size : Int) ≤ ((bs (ml1 j)[x].body).size : Int) := by
              rw [bs_size, bs_size]
              have := hpre.length_le
              omega
            generalize (ml1 j)[x].body = bd0 at *
            have hszN : (bs (bb ++ et)).size ≤ (bs bd0).size := by omega
            have hgd : decide ((bs bd0).size < (bs (bb ++ et)).size) = false := by simpa using hszN
            have hsg : sd j ≠ gq := by
              have ho := (unhide HR).jp.ms (j + 2) (by omega)
              rw [hq] at ho
              exact fun e => own_ne ho ((unhide HR).jp.side j hj) (Nat.ne_of_beq_eq_false rfl) (by rw [e]; rfl)
            have qf1 := qf (x * 6 + 1)
            have hxl' : (x : Int) < (ml1 (j + 2)).length := by omega
            have hxm' : (x : Int) < (ml1 j).length := by omega
            clear hn1 hn2 hhd hevOk hG hG2 hst1 hxg hxb hix hpre hjv hov hs hq hgot q0 q2 q4 q5 s0 s2 s3 s4 s5 sf qf HSK HNX HV h4 h1
            go_wp2_with fail
            refine (unhide HIJ _).mono ?_
            rintro r w2 ⟨rfl, rfl⟩
            go_wp2_with fail
            go_region
            go_wp2_with fail
            go_quiet (fail)
            go_wp2_with fail
            go_roundw
            case rel => exact ⟨i + 1, _, _, by go_num, by omega, (unhide HFIN).below (below_dn (Below.refl _ _) _)⟩
            case measure => simp [intOf]; omega
          · by_cases h3 : ek = 3
            · as_aux_lemma =>
              subst h3
              obtain ⟨hn1, hn2, hhd, hevOk⟩ := unhide HNX
              obtain ⟨x, bb, hst1, hG, hG3, _⟩ := hear1_two hn1 (.inr rfl)
              obtain ⟨hbb, rfl⟩ := hG3 rfl
              simp only at hst1
              have hxl : x < (ml1 (j + 2)).length := by
                have := (List.getElem?_eq_some_iff.1 hG).1
                rwa [gtL_len] at this
              have hxm : x < (ml1 j).length := by have h1 := (unhide HL).2; have h2 := (unhide HR).le; omega
              have hxg : (ml1 (j + 2))[x].body = bb ∧ (ml1 (j + 2))[x].en = false := by
                unfold gtL at hG
                rw [List.getElem?_map, List.getElem?_eq_getElem hxl] at hG
                have := Option.some.inj hG
                exact ⟨(Prod.mk.inj this).1, (Prod.mk.inj this).2⟩
              have hxb : (ml1 j)[x].body = bb := by
                rw [hbb, ← ((unhide HR).same j hj).2.1]
                unfold bdF
                rw [List.getElem?_eq_getElem hxm]
                rfl
              have hix : ixN (est : Int) j = (x : Int) := ixN_of (by omega)
              rw [hix] at HIJ
              obtain ⟨gq, cq, hq, _, hgq, hqc, q0, q1, q2, q3, q4, q5, qf⟩ := owned_mss ((unhide HR).jp.ms (j + 2) (by omega)) hxl
              obtain ⟨gs, cs, hs, _, hgs, hsc, s0, s1, s2, s3, s4, s5, sf⟩ := owned_mss ((unhide HR).jp.ms j (by omega)) hxm
              have hjv := (unhide HV).2.1
              have hov := (unhide HV).2.2
              have hne : gs ≠ gq := by
                rcases (unhide HR).jp.nem j (j + 2) (by omega) (by omega) (by omega) with h' | h'
                · rw [hs] at h'; cases h'
                · rw [hs, hq] at h'
                  exact fun e => h' (by rw [e]; rfl)
              rw [hs] at hjv
              obtain ⟨rfl, rfl⟩ : some ⟨gs, 0, none⟩ = ja ∧ cs = jc := by
                injection hjv with h1 h2 h3
                exact ⟨h1, h3⟩
              rw [hq] at hov
              obtain ⟨rfl, rfl⟩ : some ⟨gq, 0, none⟩ = oa ∧ cq = oc := by
                injection hov with h1 h2 h3
                exact ⟨h1, h3⟩
              have hgot := (unhide HR).got (m := { (ml1 (j + 2))[x] with en := true }) (y := .bool true) hlt hj hkj hq hxl (f := 3) (by omega) rfl rfl rfl rfl (by rw [unhide HEV, hxg.1]; exact hn1)
              have HFIN := hide (hgot.below ((Below.refl _ _).alloc (Nat.le_refl _) (.cells #[.int .i64 ((3 : Nat) : Int), .int .i64 (est : Int), .int .i64 (en : Int), .slice pa ehs.length pcap, .string (bs et)] 116)))
              rw [hxg.1] at q1
              rw [hxg.2] at q3
              rw [hxb] at s1
              have qf3 := qf (x * 6 + 3)
              have hxl' : (x : Int) < (ml1 (j + 2)).length := by omega
              have hxm' : (x : Int) < (ml1 j).length := by omega
              clear hn1 hn2 hhd hevOk hG hG3 hst1 hxg hxb hix hbb hjv hov hs hq hgot q0 q2 q4 q5 s0 s2 s3 s4 s5 sf qf HSK HNX HV h4 h1 h2
              go_wp2_with fail
              refine (unhide HIJ _).mono ?_
              rintro r w2 ⟨rfl, rfl⟩
              go_wp2_with fail
              go_quiet (fail)
              go_wp2_with fail
              go_roundw
              case rel => exact ⟨i + 1, _, _, by go_num, by omega, (unhide HFIN).below (below_dn (Below.refl _ _) _)⟩
              case measure => simp [intOf]; omega
            · as_aux_lemma =>
              have h1' : ((ek : Int) == 1) = false := by simp; omega
              have h2' : ((ek : Int) != 2) = true := by simp; omega
              have h3' : ((ek : Int) != 3) = true := by simp; omega
              have hfin := (unhide HSK ⟨h1, h2, h3⟩).below (unhide HBW)
              have HFIN := hide hfin
              generalize ixN (est : Int) j = nn at *
              clear hfin HSK HNX HV h1 h2 h3 h4
              go_wp2_with fail
              refine (unhide HIJ _).mono ?_
              rintro r w2 ⟨rfl, rfl⟩
              go_wp2_with fail
              go_roundw
              case rel => exact ⟨i + 1, _, _, by go_num, by omega, unhide HFIN⟩
              case measure => simp [intOf]; omega
    · have hlt' : ¬ (i : Int) < evs.length := by omega
      have hie : i = evs.length := by omega
      subst hie
      go_wp2_with fail
      go_ret
      exact ⟨rfl, mv1, ml1, unhide HR⟩
end Go.Proofs.YtbkpdapagfjmmaaGreatDoor
