import Derived.Test.YtbkpdapagfjmmaaDoorFQ
import Derived.Test.YtbkpdapagfjmmaaDoorMU2PV
/-
  Walks: what is heard of an end that is fed piece by piece.
-/
namespace Go.Proofs.YtbkpdapagfjmmaaDoor
open Go.RowKit

theorem side_one (b : Int) : ∃ k : Nat, k ≤ 1 ∧ bits .and .i64 b 1 = (k : Int) := by
  have h : ∀ x : BitVec 64, (x &&& 1#64).toNat = 0 ∨ (x &&& 1#64).toNat = 1 := by
    intro x
    rw [BitVec.toNat_and]
    have : (1#64).toNat = 2 ^ 1 - 1 := rfl
    rw [this, Nat.and_two_pow_sub_one_eq_mod]
    omega
  have e : bits .and .i64 b 1 = IntKind.i64.wrap (((BitVec.ofInt 64 b) &&& 1#64).toNat : Int) := rfl
  rw [e]
  rcases h (BitVec.ofInt 64 b) with h | h <;> rw [h]
  · exact ⟨0, by omega, rfl⟩
  · exact ⟨1, by omega, rfl⟩
/-- A number from 0 to 199, made of any. -/
def bndN (c : Int) : Nat := (if c.tmod 200 < 0 then c.tmod 200 + 199 + 1 else c.tmod 200).toNat
theorem bndN_le (c : Int) : bndN c ≤ 199 := by
  have b1 : c.tmod 200 < 200 := Int.tmod_lt_of_pos _ (by omega)
  unfold bndN
  split <;> omega
theorem bounded199 (c : Int) (w : World) (_h1 : -9223372036854775808 ≤ c) (_h2 : c ≤ 9223372036854775807) :
    Calls Tryd.prog 5 #[.int .i64 c, .int .i64 199] w fun r w' => r = .returned (.int .i64 (bndN c : Int)) ∧ w' = w := by
  have b1 : c.tmod 200 < 200 := Int.tmod_lt_of_pos _ (by omega)
  have b2 : -(200 : Int) < c.tmod 200 := by
    have e1 := Int.neg_tmod c 200
    have e2 := Int.tmod_lt_of_pos (-c) (show (0 : Int) < 200 by omega)
    omega
  unfold bndN
  by_cases h0 : c.tmod 200 < 0
  · rw [if_pos h0]
    go_enter Tryd.func5, Tryd.ntmps5
    go_wp2
    go_ret
    exact ⟨ret_int (by omega), rfl⟩
  · rw [if_neg h0]
    go_enter Tryd.func5, Tryd.ntmps5
    go_wp2
    go_ret
    exact ⟨ret_int (by omega), rfl⟩

/-- What heard answers. -/
def HrPost (w : World) (E0 : Lk.En) (L : Lk.Bs) (r : Ending) (w' : World) : Prop :=
  ∃ v evs, r = .returned (.tuple #[.agg #[v, .int .i64 ((E0.feed L).2.down : Int)], .string (bs (Lk.En.drain 100000 (E0.feed L).2).1)]) ∧ evs.map Prod.fst = (E0.feed L).1
    ∧ w'.ownsRow w.heap.size 54 5 v evs.length (evsV evs) ∧ (∀ p ∈ evs, w'.ownsRow w.heap.size 44 2 p.2 p.1.hs.length (hdsV p.1.hs)) ∧ Below w.heap.size w w'

set_option maxHeartbeats 4000000 in
set_option maxRecDepth 100000 in
theorem heard_any (side window : Int) (b : ByteArray) (ad : Option Addr) (clen ccap s : Nat) (z : Nat → Int) (w : World) (hfx : Fx w) (hI1 : -9223372036854775808 ≤ window) (hI2 : window ≤ 9223372036854775807) (hb : b.size ≤ 2 ^ 30) (hcl : clen ≤ 2 ^ 30)
    (hc : clen ≠ 0 → ∃ cb coff, ad = some ⟨cb, coff, none⟩ ∧ cb < w.heap.size ∧ ∀ i, i < clen → w.cell? ⟨cb, coff + i, none⟩ = some (.int .i64 (z i))) (hs : bits .and .i64 side 1 = (s : Int)) (hs1 : s ≤ 1) :
    Calls Tryd.prog 18 #[.int .i64 side, .int .i64 window, .string b, .slice ad clen ccap] w (HrPost w (Lk.En.new s (1 + bndN window)) b.data.toList) := by
  have hw0 := hfx.1
  have hw199 := bndN_le window
  obtain ⟨inf, hi, hz0, hz1, hz2⟩ := info_parts info_ev
  have hcast : ((1 + bndN window : Nat) : Int) = 1 + (bndN window : Int) := by omega
  have HC := hide hc
  have HFX := hide hfx
  have hb0 := (Below.refl w.heap.size w).alloc (Nat.le_refl _) (.cells #[.slice none 0 0, .int .i64 0] 50)
  have hres := Is.new w 50 [.slice none 0 0, .int .i64 0]
  have hsz1 : (w.alloc (.cells #[.slice none 0 0, .int .i64 0] 50)).heap.size = w.heap.size + 1 := by simp
  have hfx1 := hfx.below hb0 hw0
  have hnew := fun W hW => new_ok s (1 + bndN window) hs1 (by omega) (by omega) W hW
  simp only [hcast] at hnew
  have HNEW := hide hnew
  have hBND := fun W => bounded199 window W hI1 hI2
  generalize hE0 : Lk.En.new s (1 + bndN window) = E0 at *
  have hrest : E0.rest = [] := by rw [← hE0]; rfl
  have HDN : Hid ((E0.down : Int) = 0) := by rw [← hE0]; exact rfl
  generalize bndN window = win at *
  have HBND := hide hBND
  have hLsz := size_list b
  generalize hL : b.data.toList = L at *
  have HL := hide hL
  have HLS := hide hLsz
  -- all behind the result's cell
  generalize hWW : w.alloc (.cells #[.slice none 0 0, .int .i64 0] 50) = w1 at *
  have HW1 := hide (⟨hb0, hres, hsz1, hfx1⟩ : _ ∧ _ ∧ _ ∧ _)
  have hsz1' : w.heap.size < w1.heap.size := by omega
  clear hc hfx hBND hs1 hnew hb0 hres hsz1 hfx1 hE0 hL hLsz hcast
  go_enter Tryd.func18, Tryd.ntmps18
  go_wp2_with fail
  refine (unhide HBND _).mono ?_
  rintro r w2 ⟨rfl, rfl⟩
  clear hWW
  go_wp2_with fail
  refine (unhide HNEW _ (by omega)).mono ?_
  rintro r w3 ⟨eb, d0, rfl, hpe, hft, hb3⟩
  have HR0 : Hid (Hr w2 (w3.alloc (.cells #[.slice none 0 0, .int .i64 0] 50)) w3.heap.size eb E0 d0 (.slice none 0 0) [] (E0.down : Int)) := by
    obtain ⟨g1, g2, g3, g4⟩ := unhide HW1
    have hs3 := hb3.size
    have hdn : (E0.down : Int) = 0 := unhide HDN
    refine ⟨hpe.only ((Only.refl (fun _ => False) w3).alloc _) (fun _ _ h => h), by rw [hdn]; exact Is.new w3 50 _, World.ownsRow_nil _ _ _ _, by simp, fun i hi => ?_, hft, fun hf => ?_, (g4.below hb3 g4.1).below ((Below.refl _ _).alloc (Nat.le_refl _) _) (by have := g4.1; omega), hb3.alloc hs3 _, hs3, g4.1⟩
    · rcases hi with hi | ⟨p, hp, _⟩
      · cases hi
      · cases hp
    · have := hpe.lt _ hf
      omega
  clear hpe hft hb3
  go_wp2_with (go_at_call 7; refine (num_any _ _).mono ?_; rintro e w4 ⟨rfl, rfl⟩)
  go_loopw [13, 14] (fun la ix wr => ∃ (k last : Nat) (e1 : Lk.En) (d1 : PD) (v : Value) (evs : List EvH), la = .int .i64 last ∧ ix = .int .i64 k ∧ k ≤ clen + 1 ∧ last ≤ b.size ∧ (clen < k → last = b.size) ∧ Hid (Along E0 L last e1 (evs.map Prod.fst) ∧ Hr w2 wr w4.heap.size eb e1 d1 v evs (e1.down : Int))) (fun _ ix _ => clen + 1 - (intOf ix).toNat)
  case atStart => exact ⟨0, 0, E0, d0, _, [], rfl, rfl, by omega, Nat.zero_le _, by omega, Along.start _ _, unhide HR0⟩
  case round =>
    clear HR0
    obtain ⟨k, last, e1, d1, v, evs, rfl, rfl, hk, hlast, hlk, HH⟩ := hrel
    by_cases hkl : k ≤ clen
    · have hkl' : (k : Int) ≤ clen := by omega
      have hwr : w2.heap.size ≤ wr.heap.size := (unhide HH).2.bel.size
      have hcell : k < clen → ∃ cb coff, ad = some ⟨cb, coff, none⟩ ∧ wr.cell? ⟨cb, coff + k, none⟩ = some (.int .i64 (z k)) ∧ cb < wr.heap.size := fun h => by
        obtain ⟨cb, coff, h1, h2, h3⟩ := unhide HC (by omega)
        have hbb : Below w.heap.size w wr := (unhide HW1).1.trans ((unhide HH).2.bel.mono (by omega))
        exact ⟨cb, coff, h1, (hbb.cell (p := ⟨cb, coff + k, none⟩) h2).trans (h3 k h), by omega⟩
      have HCELL := hide hcell
      clear hcell
      go_upto_region 10 with fail
      go_cut [66] (fun s66 wx => wx = wr ∧ ∃ t : Bool, s66 = .bool t ∧ (t = true → k < clen ∧ (last : Int) ≤ z k ∧ z k ≤ b.size))
      case first =>
        by_cases h1 : k < clen
        · have h1' : (k : Int) < clen := by omega
          obtain ⟨cb, coff, rfl, hz, hcb'⟩ := unhide HCELL h1
          by_cases h2 : (last : Int) ≤ z k
          · by_cases h3 : z k ≤ b.size
            · go_wp2_with fail
              go_meet
              exact ⟨rfl, _, rfl, fun _ => ⟨h1, h2, h3⟩⟩
            · have h3' : decide (z k ≤ (b.size : Int)) = false := by simpa using h3
              go_wp2_with fail
              go_meet
              exact ⟨rfl, _, rfl, fun h => by simp at h⟩
          · have h2' : decide ((last : Int) ≤ z k) = false := by simpa using h2
            go_wp2_with fail
            go_meet
            exact ⟨rfl, _, rfl, fun h => by simp at h⟩
        · have h1' : ¬ (k : Int) < clen := by omega
          go_wp2_with fail
          go_meet
          exact ⟨rfl, _, rfl, fun h => by simp at h⟩
      case rest =>
        obtain ⟨rfl, t, rfl, ht⟩ := hcut
        go_upto_if 66 with fail
        go_cut [15] (fun s15 wx => wx = wc ∧ ∃ nxt : Nat, s15 = .int .i64 nxt ∧ last ≤ nxt ∧ nxt ≤ b.size ∧ (k = clen → nxt = b.size))
        case first =>
          cases t with
          | true =>
            obtain ⟨h1, h2, h3⟩ := ht rfl
            obtain ⟨cb, coff, rfl, hz, hcb'⟩ := unhide HCELL h1
            clear ht
            have h1' : (k : Int) < clen := by omega
            go_wp2_with fail
            go_meet
            exact ⟨rfl, (z k).toNat, by rw [Int.toNat_of_nonneg (by omega)], by omega, by omega, by omega⟩
          | false =>
            clear ht
            go_wp2_with fail
            go_meet
            exact ⟨rfl, b.size, rfl, by omega, by omega, fun _ => rfl⟩
        case rest =>
          obtain ⟨rfl, nxt, rfl, hn1, hn2, hn3⟩ := hcut
          clear ht HCELL
          have hnn : (last : Int) ≤ nxt := by omega
          have hnb : (nxt : Int) ≤ b.size := by omega
          obtain ⟨hal, hHr⟩ := unhide HH
          have hal2 := hal.step (by have := take_piece b last nxt hn1; rw [unhide HL] at this; exact this)
          have hlen2 := hal2.len hrest
          rw [← unhide HLS] at hlen2
          have HFEED := hide (feed_p eb e1 d1 (b.extract last nxt) _ hHr.pe hHr.fx (by rw [ByteArray.size_extract]; omega))
          have hstay : e1.down ≠ 0 → (e1.feed (b.extract last nxt).data.toList).2.down = e1.down ∧ (e1.feed (b.extract last nxt).data.toList).1 = [] := fun h => by
            rw [e1.feed_down _ h]
            exact ⟨rfl, rfl⟩
          generalize (e1.feed (b.extract last nxt).data.toList).2 = e2 at *
          generalize (e1.feed (b.extract last nxt).data.toList).1 = evl at *
          have hebl : eb < wc.heap.size := hHr.pe.lt eb (.inl rfl)
          have HHR := hide hHr
          have HAL := hide (⟨hal2, hstay⟩ : _ ∧ _)
          clear hal hHr hal2 hstay HH
          go_wp2_with fail
          refine (unhide HFEED).mono ?_
          rintro r w5 ⟨v1, rfl, hF⟩
          obtain ⟨d2, news, hnews, hIn⟩ := (unhide HHR).fed hF
          rw [← hnews] at hlen2
          rw [List.length_append, List.length_map, List.length_map] at hlen2
          have HNEWS := hide hnews
          have hobl := hIn.hr.out.lt
          have co1 : w5.cell? ⟨w4.heap.size, 1, none⟩ = some (.int .i64 (e1.down : Int)) := hIn.hr.out.cell 1
          obtain ⟨va, vn, vc, hv1, hvn⟩ := own_slice hIn.row1
          subst hv1
          have HVN := hide hvn
          have HIN := hide hIn
          have hbel5 : w2.heap.size ≤ w5.heap.size := hIn.hr.bel.size
          clear hF hIn hnews hvn HFEED HHR
          -- what is told behind an error
          go_wp2_with fail
          go_cut [94] (fun s94 wx => s94 = .bool false ∧ ∃ n, wx = w5.drewN n)
          case first =>
            obtain ⟨_, hstay⟩ := unhide HAL
            by_cases he : e1.down = 0
            · have he' : (((e1.down : Nat) : Int) != 0) = false := by rw [he]; rfl
              clear hstay
              go_quiet ((go_at_call 7; exact Calls.quiet_of_same (num_any _ _)))
              go_wp2_with fail
              go_meet
              exact ⟨rfl, _, rfl⟩
            · have he' : (((e1.down : Nat) : Int) != 0) = true := by simp; omega
              obtain ⟨hd2, hev⟩ := hstay he
              have hn0 : news.length = 0 := by
                have := congrArg List.length (unhide HNEWS)
                rw [hev, List.length_map] at this
                exact this
              have hvn0 : vn = 0 := (unhide HVN).trans hn0
              subst hvn0
              have hne' : (((e2.down : Nat) : Int) != ((e1.down : Nat) : Int)) = false := by rw [hd2]; simp
              clear hstay hd2 hn0 he
              go_quiet ((go_at_call 7; exact Calls.quiet_of_same (num_any _ _)))
              go_wp2_with fail
              go_meet
              exact ⟨rfl, _, rfl⟩
          case rest =>
            obtain ⟨rfl, nd, rfl⟩ := hcut
            have HIN2 := hide ((unhide HIN).below (below_dn (Below.refl _ w5) nd))
            clear HIN co1 hobl
            go_wp2_with fail
            go_loopw [18] (fun ix W => ∃ (q : Nat) (vq : Value), ix = .int .i64 q ∧ q ≤ news.length ∧ Hid (In1 w2 W w4.heap.size eb e2 d2 vq evs (e1.down : Int) (.slice va vn vc) news q)) (fun ix _ => news.length - (intOf ix).toNat)
            case atStart => exact ⟨0, _, rfl, Nat.zero_le _, unhide HIN2⟩
            case round =>
              clear HIN2
              obtain ⟨q, vq, rfl, hq, HI⟩ := hrel
              have hIq := unhide HI
              have hob : w4.heap.size < wr.heap.size := hIq.hr.out.lt
              have hw2W := hIq.hr.bel.size
              by_cases hql : q < news.length
              · have hql' : (q : Int) < news.length := by omega
                rcases owned_evs hIq.row1 with ⟨h0, _⟩ | ⟨gl, cap, hv, _, hgl, hcell⟩
                · rw [h0] at hql; simp at hql
                obtain ⟨rfl, rfl, rfl⟩ : va = some ⟨gl, 0, none⟩ ∧ vn = news.length ∧ vc = cap := by
                  injection hv with h1 h2 h3
                  exact ⟨h1, h2, h3⟩
                obtain ⟨c0, c1, c2, c3, c4⟩ := hcell q hql
                have co0 : wr.cell? ⟨w4.heap.size, 0, none⟩ = some vq := hIq.hr.out.cell 0
                have hHd := hIq.hds1 news[q] (List.getElem_mem hql)
                have hpush := fun (W3 : World) (g1 cap1 : Nat) (o : Obj) ho hg hor => hIq.push (W3 := W3) (g1 := g1) (cap1 := cap1) (o := o) hql ho hg hor
                have HPUSH := hide hpush
                have hqn : (evs ++ news.take q).length = evs.length + q := by rw [List.length_append, List.length_take]; omega
                have HQN := hide hqn
                have hrow := hIq.hr.row
                obtain ⟨pa, pn, pcap, hpv, hpn⟩ := own_slice hHd
                generalize hnq : news[q] = p at *
                obtain ⟨⟨ek, est, en, ehs, et⟩, ph⟩ := p
                simp only at c0 c1 c2 c3 c4 hpv
                subst hpv
                obtain ⟨qa, qn, qcap, hqv, hqvn⟩ := own_slice hrow
                subst hqv
                have hout := hIq.hr.out
                have HROW := hide hrow
                have HOUT := hide hout
                clear hv hcell hIq hHd hpush hpn hqvn hnq hrow hout hqn
                go_wp2_with fail
                go_region_law (first
                  | (refine step_append_lies _ rfl _ _ 48 rfl w2.heap.size 54 inf _ 5 64 Tryd.underlying48 hi hz0 hz1 hz2 rfl (Nat.succ_pos 4) (.slice qa qn qcap) (evs ++ news.take q).length (evsV (evs ++ news.take q)) rfl ((unhide HROW).alloc _) ⟨wr.heap.size, 0, none⟩ 1 1 [.int .i64 (ek : Int), .int .i64 (est : Int), .int .i64 (en : Int), .slice pa pn pcap, .string (bs et)] rfl rfl ?_ ?_ ?_ ?_ ?_ ?_ (wr.heap.size + 1) ?_ ?_
                     exact cells_news wr _ 54
                     simp [Value.oneCell']
                     omega
                     (have := unhide HQN; unfold maxLen; omega)
                     (have := unhide HQN; omega)
                     (simp <;> omega)
                     simp
                     intro g1 cap1 w6 ho6 hg6 hor6 hlt6
                     have hO6 := (((unhide HOUT).alloc (.cells #[.int .i64 (ek : Int), .int .i64 (est : Int), .int .i64 (en : Int), .slice pa pn pcap, .string (bs et)] 54)).drew).grown hg6 (own_ne (unhide HROW) (unhide HOUT) (Nat.ne_of_beq_eq_false rfl))
                     have k0 := hO6.cell 0
                     have k0f := hO6.free 0
                     simp only [List.getElem?_cons_zero] at k0))
                all_goals
                  go_wp2_with fail
                  go_roundw
                  case rel =>
                    have hP := unhide HPUSH _ _ _ _ ho6 (undrew hg6) (hor6.imp id (fun h => by simp; omega))
                    rw [unhide HQN] at hP
                    exact ⟨q + 1, _, by go_num, by omega, hP⟩
                  case measure => simp [intOf]; omega
              · have hqe : q = news.length := by omega
                subst hqe
                have hvn2 := unhide HVN
                subst hvn2
                have hdone := hIq.done (e2.down : Int)
                have co1 : wr.cell? ⟨w4.heap.size, 1, none⟩ = some (.int .i64 (e1.down : Int)) := hIq.hr.out.cell 1
                have cf1 := hIq.hr.out.free 1
                have HDONE := hide hdone
                clear hIq hdone
                go_wp2_with (go_at_call 7; refine (num_any _ _).mono ?_; rintro e w7 ⟨rfl, rfl⟩)
                go_roundw
                case rel =>
                  refine ⟨k + 1, nxt, e2, d2, vq, evs ++ news, rfl, by go_num, by omega, hn2, fun _ => hn3 (by omega), ?_, unhide HDONE⟩
                  rw [List.map_append, unhide HNEWS]
                  exact (unhide HAL).1
                case measure => simp [intOf]; omega
    · have hkl' : ¬ (k : Int) ≤ clen := by omega
      obtain ⟨hal, hHr⟩ := unhide HH
      obtain ⟨hE1, hE2⟩ := hal.end (by rw [← unhide HLS]; have := hlk (by omega); omega) hHr.pe.wf
      have hdn : (E0.feed L).2.down = e1.down := by
        have := congrArg Lk.En.down hE2
        exact this
      have hdr := Lk.En.drain_rest 100000 hE2
      have HD := hide (drain_any eb e1 d1 100000 wr hHr.pe (by omega) (by have := Lk.drain_most 100000 hHr.pe.wf; show (Lk.En.drain 100000 e1).1.length ≤ _; omega))
      have hebl : eb < wr.heap.size := hHr.pe.lt eb (.inl rfl)
      have HH2 := hide (⟨hHr, hE1, hdn, hdr⟩ : _ ∧ _ ∧ _ ∧ _)
      clear hal hHr hE1 hE2 hdn hdr HH
      go_wp2_with fail
      refine (unhide HD).mono ?_
      rintro r w6 ⟨rfl, hP⟩
      obtain ⟨hHr, hE1, hdn, hdr⟩ := unhide HH2
      obtain ⟨hO6, hR6, hH6, hB6⟩ := hHr.drained hP
      obtain ⟨g1, g2, g3, g4⟩ := unhide HW1
      have hres6 := g2.below hB6 hsz1'
      obtain ⟨qa, qn, qcap, hqv, hqvn⟩ := own_slice hR6
      subst hqv
      have o0 : w6.cell? ⟨w4.heap.size, 0, none⟩ = some (.slice qa qn qcap) := hO6.cell 0
      have o1 : w6.cell? ⟨w4.heap.size, 1, none⟩ = some (.int .i64 (e1.down : Int)) := hO6.cell 1
      have r0 : w6.cell? ⟨w.heap.size, 0, none⟩ = some (.slice none 0 0) := hres6.cell 0
      have r1 : w6.cell? ⟨w.heap.size, 1, none⟩ = some (.int .i64 0) := hres6.cell 1
      have f0 := hres6.free 0
      have f1 := hres6.free 1
      have hol := hO6.lt
      have hrl := hres6.lt
      have hbb : Below w.heap.size w ((w6.setCell ⟨w.heap.size, 0, none⟩ (.slice qa qn qcap)).setCell ⟨w.heap.size, 1, none⟩ (.int .i64 (e1.down : Int))) := ((g1.trans (hB6.mono (by omega))).setCell (Nat.le_refl _) _).setCell (Nat.le_refl _) _
      have hSO : Only (· = w.heap.size) w6 ((w6.setCell ⟨w.heap.size, 0, none⟩ (.slice qa qn qcap)).setCell ⟨w.heap.size, 1, none⟩ (.int .i64 (e1.down : Int))) := ((Only.refl (· = w.heap.size) w6).set w.heap.size 0 _ (fun _ => rfl)).set w.heap.size 1 _ (fun _ => rfl)
      have hR7 := own_base (by omega : w.heap.size ≤ w2.heap.size) (own_only hR6 hSO (fun i hi e => by have := (hR6.lt i hi).1; omega))
      have hH7 := fun p hp => own_base (by omega : w.heap.size ≤ w2.heap.size) (own_only (hH6 p hp) hSO (fun i hi e => by have := ((hH6 p hp).lt i hi).1; omega))
      have HFIN := hide (⟨hE1, hdn, hdr, hbb, hR7, hH7⟩ : _ ∧ _ ∧ _ ∧ _ ∧ _ ∧ _)
      clear hHr hE1 hdn hdr hO6 hR6 hH6 hB6 g1 g2 g3 g4 hres6 hqvn hP hbb hSO hR7 hH7
      go_wp2_with fail
      obtain ⟨hE1, hdn, hdr, hbb, hR7, hH7⟩ := unhide HFIN
      refine bodyPost_ret (v := .tuple #[.agg #[.slice qa qn qcap, .int .i64 (e1.down : Int)], .string (bs (Lk.En.drain 100000 e1).1)]) (by simp [results, Tryd.results18, go_sem, r0, r1]) rfl ⟨_, evs, ?_, hE1.symm, hR7, hH7, hbb⟩
      rw [hdn, hdr]
end Go.Proofs.YtbkpdapagfjmmaaDoor
