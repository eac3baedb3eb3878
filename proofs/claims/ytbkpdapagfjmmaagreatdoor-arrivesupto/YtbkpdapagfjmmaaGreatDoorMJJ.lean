import Derived.Test.YtbkpdapagfjmmaaGreatDoorMJHJI
/-
  Walks: the statement that all arrives.
-/
set_option linter.unusedVariables false
namespace Go.Proofs.YtbkpdapagfjmmaaGreatDoor
open Go.RowKit

theorem drewN_two (w : World) (n m : Nat) : (w.drewN n).drewN m = w.drewN (n + m) := by
  simp [World.drewN, Nat.add_assoc]
set_option maxHeartbeats 4000000 in
set_option maxRecDepth 100000 in
theorem arrives_any (window : Int) (w : World) (ad : Option Addr) (len cap : Nat) (ops : Nat → Sc.OpJ) (hI1 : -9223372036854775808 ≤ window) (hI2 : window ≤ 9223372036854775807) (hlen : len ≤ 131072) (hfx : Fx w)
    (hSc : len ≠ 0 → ∃ blk off, ad = some ⟨blk, off, none⟩ ∧ Sc.ScriptJ w blk off len ops) :
    Calls Tryz.prog 7 #[.int .i64 window, .slice ad len cap] w fun e w' => e = .returned (.bool true) ∧ Below w.heap.size w w' := by
  have hw199 := bndN_le window
  have HST := hide (⟨JS.start (win := 1 + bndN window) (by omega) (by omega), JXS.start (win := 1 + bndN window) (by omega) (by omega)⟩ : _ ∧ _)
  have HP := hide (pair_any window w hfx hI1 hI2)
  have HSC := hide hSc
  clear hfx hSc
  go_enter Tryz.func7, Tryz.ntmps7
  go_wp2_with fail
  refine (unhide HP).mono ?_
  rintro r w1 ⟨P, rfl, g, gcap, sd, eb, d, hJ⟩
  have HJ0 : Hid (JStX w P g gcap sd eb 0 w1 ∧ Below w.heap.size w w1) := ⟨⟨_, d, _, _, _, _, hJ, (unhide HST).1, (fun q _ m hm => by cases hm), (unhide HST).2.1, (by rw [(unhide HST).2.2]; omega), (by simp)⟩, hJ.bel⟩
  clear hJ HST HP
  go_wp2_with fail
  go_loopw [7] (fun u wr => ∃ i : Nat, i ≤ len ∧ u = .int .i64 i ∧ Hid (JStX w P g gcap sd eb i wr ∧ Below w.heap.size w wr)) (fun u _ => len - (intOf u).toNat)
  case atStart => exact ⟨0, Nat.zero_le _, rfl, HJ0⟩
  case round =>
    clear HJ0
    obtain ⟨i, hi, rfl, HR⟩ := hrel
    obtain ⟨hR, hbel⟩ := unhide HR
    by_cases hlt : i < len
    · have hlt' : (i : Int) < len := by omega
      have hi60 : (i : Int) < 1152921504606846976 := by omega
      obtain ⟨blk, off, rfl, hS⟩ := unhide HSC (by omega)
      obtain ⟨hok, hcs⟩ := hS.2 i hlt
      have hok' : (ops i).Ok wr := ⟨hok.s, hok.h, hok.strs.below hbel (Nat.le_refl _), hok.kd, hok.a, hok.n⟩
      have hcell : ∀ j, j < 7 → wr.cell? ⟨blk, off + i * 7 + j, none⟩ = (ops i).vals[j]? := fun j hj => (hbel.cell (p := ⟨blk, off + i * 7 + j, none⟩) hS.1).trans (hcs j hj)
      have HC := hide (stepX_any w P g gcap sd eb i (ops i) wr (by omega) hok' hR)
      have HBE := hide hbel
      generalize ops i = o at *
      obtain ⟨kd, a, b, s, tt, c, ha, hl, hc, l⟩ := o
      have c0 := hcell 0 (by omega)
      have c1 := hcell 1 (by omega)
      have c2 := hcell 2 (by omega)
      have c3 := hcell 3 (by omega)
      have c4 := hcell 4 (by omega)
      have c5 := hcell 5 (by omega)
      have c6 := hcell 6 (by omega)
      simp only [Sc.OpJ.vals, List.getElem?_cons_zero, List.getElem?_cons_succ, Nat.add_zero] at c0 c1 c2 c3 c4 c5 c6
      simp only at HC
      have hblk : blk < wr.heap.size := Nat.lt_of_lt_of_le hS.1 hbel.size
      clear hcell hcs hok hok' hR hbel HR hS HSC
      go_wp2_with fail
      refine (unhide HC).mono ?_
      rintro r w2 ⟨rfl, hN⟩
      have HN : Hid (JStX w P g gcap sd eb (i + 1) w2 ∧ Below w.heap.size w w2) := ⟨hN, by obtain ⟨_, _, _, _, _, _, h1, _⟩ := hN; exact h1.bel⟩
      clear hN HC
      go_wp2_with fail
      go_roundw
      case rel => exact ⟨i + 1, by omega, by go_num, unhide HN⟩
      case measure => simp [intOf]; omega
    · have hlt' : ¬ (i : Int) < len := by omega
      obtain ⟨e, d, mv, ml, pipe, F, hJ, hS, hB, hX, hc, hL⟩ := hR
      have hRS := RSt.start (n := i) (by omega) hJ hS hB hX hc hL
      have p0 : wr.cell? ⟨P, 0, none⟩ = some (.slice (some ⟨g, 0, none⟩) 2 gcap) := hJ.pr.cell 0
      have pl := hJ.pr.lt
      have gl : g < wr.heap.size := by obtain ⟨t, ht⟩ := hJ.row; exact ht.lt
      have hcap := hJ.cap2
      have hv5 := hRS.v5
      have HFX : Hid (∀ k, k < 2 → wr.cell? ⟨g, k, none⟩ = some (.pointer (some ⟨sd k, 0, none⟩)) ∧ wr.cell? ⟨sd k, 1, none⟩ = some (mv k) ∧ sd k < wr.heap.size) := fun k hk => ⟨pair_at hJ.row hk, (hJ.side k hk).cell 1, (hJ.side k hk).lt⟩
      have HMS : Hid (∀ q, q < 2 → wr.ownsRow w.heap.size 44 6 (mv q) (ml q).length (mssV (ml q))) := fun q hq => hJ.ms q (by omega)
      have HBD := hide hB
      have HLN : Hid (∀ q, q < 2 → (ml q).length ≤ 134217729) := fun q hq => hS.len (by omega)
      have HRS := hide hRS
      have hrs2 : Hid (∀ q, q ≤ 2 → rs2 ml q ≤ rs2 ml 2) := fun q hq => by
        have : q = 0 ∨ q = 1 ∨ q = 2 := by omega
        simp only [rs2]
        rcases this with rfl | rfl | rfl <;> simp only [rs2] <;> omega
      clear hJ hS hB hX hc hL hRS hbel HR HSC
      go_wp2_with fail
      go_loopw [9, 8] (fun u9 u8 wx => wx = wr ∧ ∃ k : Nat, k ≤ 2 ∧ u9 = .int .i64 k ∧ u8 = .int .i64 ((10 + rs2 ml k : Nat) : Int)) (fun u9 _ _ => 2 - (intOf u9).toNat)
      case atStart => exact ⟨rfl, 0, by omega, rfl, rfl⟩
      case round =>
        obtain ⟨rfl, k, hk, rfl, rfl⟩ := hrel
        by_cases hk2 : k < 2
        · have hk2' : (k : Int) < 2 := by omega
          obtain ⟨rk, sk1, skl⟩ := unhide HFX k hk2
          have hms := unhide HMS k hk2
          obtain ⟨va, vc, hv⟩ := own_any hms
          rw [hv] at sk1
          have hlk := unhide HLN k hk2
          have HV := hide hv
          have hacc := unhide hrs2 k (by omega)
          have hacc1 : rs2 ml k + rsum (ml k) ≤ rs2 ml 2 := unhide hrs2 (k + 1) (by omega)
          have HT : Hid (∀ n, rsum ((ml k).take n) ≤ rsum (ml k)) := fun n => by
            have e := congrArg rsum (List.take_append_drop n (ml k))
            have e2 : rsum ((ml k).take n ++ (ml k).drop n) = rsum ((ml k).take n) + rsum ((ml k).drop n) := by unfold rsum; rw [List.map_append, List.sum_append]
            omega
          clear hms hv
          go_wp2_with fail
          go_loopw [10, 8] (fun u10 u8 wx => wx = wr ∧ ∃ n : Nat, n ≤ (ml k).length ∧ u10 = .int .i64 n ∧ u8 = .int .i64 ((10 + rs2 ml k + rsum ((ml k).take n) : Nat) : Int)) (fun u10 _ _ => (ml k).length - (intOf u10).toNat)
          case atStart => exact ⟨rfl, 0, Nat.zero_le _, rfl, by simp [rsum]⟩
          case round =>
            obtain ⟨rfl, n, hn, rfl, rfl⟩ := hrel
            by_cases hnl : n < (ml k).length
            · have hnl' : (n : Int) < (ml k).length := by omega
              obtain ⟨gq, cq, hq2, _, hgq, hqc, q0, q1, _⟩ := owned_mss (unhide HMS k hk2) hnl
              obtain ⟨rfl, rfl⟩ : va = some ⟨gq, 0, none⟩ ∧ vc = cq := by
                rw [unhide HV] at hq2
                injection hq2 with k1 k2 k3
                exact ⟨k1, k3⟩
              have hb300 := unhide HBD k (by omega) (ml k)[n] (List.getElem_mem hnl)
              have hstep := rsum_take (ml k) hnl
              have hT1 := unhide HT (n + 1)
              have hbs : ((bs (ml k)[n].body).size : Int) = (ml k)[n].body.length := by rw [bs_size]
              have HNX : Hid (((10 + rs2 ml k + rsum ((ml k).take n) : Nat) : Int) + 2 + ((bs (ml k)[n].body).size : Int) = ((10 + rs2 ml k + rsum ((ml k).take (n + 1)) : Nat) : Int)) := hide (by
                rw [hbs, hstep]
                omega)
              have hsm : ((10 + rs2 ml k + rsum ((ml k).take n) : Nat) : Int) ≤ 50000000 := by have := unhide HT n; omega
              have hsm0 : (0 : Int) ≤ ((10 + rs2 ml k + rsum ((ml k).take n) : Nat) : Int) := by omega
              have hbs2 : ((bs (ml k)[n].body).size : Int) ≤ 300 := by omega
              generalize ((10 + rs2 ml k + rsum ((ml k).take n) : Nat) : Int) = AC at *
              generalize (ml k)[n] = x at *
              clear hq2 q0 hstep hT1 hbs hb300
              go_wp2_with fail
              go_roundw
              case rel => exact ⟨by trivial, n + 1, by omega, by go_num, by first | exact congrArg _ (unhide HNX) | (rw [← unhide HNX]; go_num)⟩
              case measure => simp [intOf]; omega
            · have hnl' : ¬ (n : Int) < (ml k).length := by omega
              have hnn : n = (ml k).length := by omega
              have HNX : Hid (((10 + rs2 ml k + rsum ((ml k).take n) : Nat) : Int) = ((10 + rs2 ml (k + 1) : Nat) : Int)) := hide (by
                rw [hnn, List.take_length]
                simp only [rs2]
                omega)
              generalize ((10 + rs2 ml k + rsum ((ml k).take n) : Nat) : Int) = AC at *
              clear hnn
              go_wp2_with fail
              go_roundw
              case rel => exact ⟨by trivial, k + 1, by omega, by go_num, congrArg _ (unhide HNX)⟩
              case measure => simp [intOf]; omega
        · have hk2' : ¬ (k : Int) < 2 := by omega
          obtain rfl : k = 2 := by omega
          have HR4 : Hid (∃ s e' d' mv' ml' pipe' F', RSt w P g gcap sd eb 0 s (10 + rs2 ml 2) e' d' mv' ml' pipe' F' wr) := ⟨0, e, d, mv, ml, pipe, F, unhide HRS⟩
          have hV0 : 0 < 10 + rs2 ml 2 := by omega
          clear HMS HLN HBD hrs2 HFX p0 pl gl HRS
          generalize 10 + rs2 ml 2 = V at *
          go_wp2_with fail
          go_loopw [8] (fun u wx => ∃ v : Nat, u = .int .i64 v ∧ v ≤ 50000000 ∧ Hid ((v ≠ 0 → ∃ s e d mv ml pipe F, RSt w P g gcap sd eb 0 s v e d mv ml pipe F wx) ∧ (v = 0 → ∃ e d mv ml pipe, FSt w P g gcap sd eb e d mv ml pipe wx))) (fun u _ => (intOf u).toNat)
          case atStart => exact ⟨V, rfl, hv5, ⟨fun _ => unhide HR4, fun h => absurd h (by omega)⟩⟩
          case round =>
            clear HR4 hV0 hv5
            obtain ⟨v, rfl, hv5, HV⟩ := hrel
            by_cases hv0 : 0 < v
            · have hv0' : (0 : Int) < v := by omega
              have HR0 := hide ((unhide HV).1 (by omega))
              clear HV
              go_wp2_with fail
              go_loopw [11] (fun u wx => ∃ k : Nat, k ≤ 2 ∧ u = .int .i64 k ∧ Hid (∃ s e d mv ml pipe F, RSt w P g gcap sd eb k s v e d mv ml pipe F wx)) (fun u _ => 2 - (intOf u).toNat)
              case atStart => exact ⟨0, by omega, rfl, unhide HR0⟩
              case round =>
                clear HR0
                obtain ⟨k, hk, rfl, HR⟩ := hrel
                obtain ⟨s, e, d, mv, ml, pipe, F, hR⟩ := unhide HR
                by_cases hk2 : k < 2
                · have hk2' : (k : Int) < 2 := by omega
                  obtain ⟨j, hj, hkj⟩ := other_of hk2
                  have hjk : (1 : Int) - (k : Int) = (j : Int) := by omega
                  have hJ := hR.jp
                  have p0 : wr.cell? ⟨P, 0, none⟩ = some (.slice (some ⟨g, 0, none⟩) 2 gcap) := hJ.pr.cell 0
                  have pl := hJ.pr.lt
                  have rk : wr.cell? ⟨g, k, none⟩ = some (.pointer (some ⟨sd k, 0, none⟩)) := pair_at hJ.row hk2
                  have gl : g < wr.heap.size := by obtain ⟨t, ht⟩ := hJ.row; exact ht.lt
                  have sk0 : wr.cell? ⟨sd k, 0, none⟩ = some (.pointer (some ⟨eb k, 0, none⟩)) := (hJ.side k hk2).cell 0
                  have skl := (hJ.side k hk2).lt
                  have hsm := hR.small hk2
                  have e6 : (1000000 : Int).toNat = 1000000 := rfl
                  have hd := drain_any (eb k) (e k) (d k) 1000000 wr (hJ.pe k hk2) (by omega) (by rw [e6]; omega)
                  rw [e6] at hd
                  have HD := hide hd
                  have HMV := hide (fun w2 h => hR.moved hk2 hj hkj (w2 := w2) h)
                  have HAT := hide (fun e2 e3 d3 mv3 ml2 ml3 pipe2 F2 F3 w3 h1 h2 => RSt.ate (e2 := e2) (e3 := e3) (d3 := d3) (mv3 := mv3) (ml2 := ml2) (ml3 := ml3) (pipe2 := pipe2) (F2 := F2) (F3 := F3) (w3 := w3) hR hk2 hj hkj h1 h2)
                  have HMO := hide (fun w' d1 hJ1 => move_any w P g gcap sd eb (upd e k (Lk.En.drain 1000000 (e k)).2) d1 mv ml (upd pipe k (pipe k ++ (Lk.En.drain 1000000 (e k)).1)) (524288 + 801 * k) k j (-1) w' hk2 hj hkj (by omega) (fun q hq => hR.bd q (by omega)) hJ1 (hR.js.drain hk2 1000000))
                  have hsum : ¬ (bs (pipe k)).size + (bs (Lk.En.drain 1000000 (e k)).1).size > 9223372036854775807 := by
                    rw [bs_size, bs_size]
                    omega
                  have hcat := bs_cat (pipe k) (Lk.En.drain 1000000 (e k)).1
                  have HJ := hide hJ
                  clear hJ hR HR hsm hd e6
                  generalize (Lk.En.drain 1000000 (e k)).1 = sent at *
                  generalize (Lk.En.drain 1000000 (e k)).2 = e1 at *
                  go_wp2_with fail
                  refine (unhide HD).mono ?_
                  rintro r w3 ⟨rfl, d', h1, h2, h3⟩
                  have hJ1 := (unhide HJ).call hk2 h1 h2 h3
                  have z0 : w3.cell? ⟨P, 0, none⟩ = some (.slice (some ⟨g, 0, none⟩) 2 gcap) := hJ1.pr.cell 0
                  have zl := hJ1.pr.lt
                  have zr : w3.cell? ⟨g, k, none⟩ = some (.pointer (some ⟨sd k, 0, none⟩)) := pair_at hJ1.row hk2
                  have zg : g < w3.heap.size := by obtain ⟨t, ht⟩ := hJ1.row; exact ht.lt
                  have z3 : w3.cell? ⟨sd k, 3, none⟩ = some (.string (bs (pipe k))) := (hJ1.side k hk2).cell 3
                  have zf := (hJ1.side k hk2).free 3
                  have zs := (hJ1.side k hk2).lt
                  have HMC := hide (unhide HMO ((w3.setCell ⟨sd k, 3, none⟩ (.string (bs (pipe k ++ sent)))).drew) _ ((hJ1.setPipe hk2 (pipe k ++ sent)).below ⟨rfl, rfl, rfl, Nat.le_refl _, fun _ _ => rfl⟩))
                  clear h1 h2 h3 hJ1 HD HJ p0 pl rk gl sk0 skl HMO
                  go_wp2_with fail
                  go_region
                  go_wp2_with fail
                  refine (unhide HMC).mono ?_
                  rintro r w5 ⟨rfl, hM⟩
                  obtain ⟨e2, d2, mv2, ml2, pipe2, F2, j1, j2, j3, j4, j5, j6⟩ := unhide HMV w5 hM
                  have HE := hide (eat_any w P g gcap sd eb e2 d2 mv2 ml2 pipe2 F2 (524288 + 801 * k + 1) j k w5 hj hk2 (Ne.symm hkj) j1 j2 j3 j4 j5)
                  have HJ6 := hide j6
                  clear j1 j2 j3 j4 j5 j6 hM HMC HMV z0 zl zr zg z3 zf zs
                  go_wp2_with fail
                  refine (unhide HE).mono ?_
                  rintro r w6 ⟨rfl, e3, d3, ml3, F3, hE⟩
                  have HN := hide (unhide HAT e2 e3 d3 mv2 ml2 ml3 pipe2 F2 F3 w6 (unhide HJ6) hE)
                  clear hE HE HJ6 HAT
                  go_wp2_with fail
                  go_roundw
                  case rel => exact ⟨k + 1, by omega, by go_num, s, e3, d3, mv2, ml3, pipe2, F3, unhide HN⟩
                  case measure => simp [intOf]; omega
                · have hk2' : ¬ (k : Int) < 2 := by omega
                  obtain rfl : k = 2 := by omega
                  have HN : Hid ((v - 1 ≠ 0 → ∃ s e d mv ml pipe F, RSt w P g gcap sd eb 0 s (v - 1) e d mv ml pipe F wr) ∧ (v - 1 = 0 → ∃ e d mv ml pipe, FSt w P g gcap sd eb e d mv ml pipe wr)) := by
                    refine ⟨fun h => ⟨s + 2, e, d, mv, ml, pipe, F, hR.next (by omega)⟩, fun h => ?_⟩
                    have hv1 : v = 1 := by omega
                    subst hv1
                    exact ⟨e, d, mv, ml, pipe, hR.fin⟩
                  clear hR HR
                  go_wp2_with fail
                  go_roundw
                  case rel => exact ⟨v - 1, congrArg _ (by omega), by omega, unhide HN⟩
                  case measure => simp [intOf]; omega
            · have hv0' : ¬ (0 : Int) < v := by omega
              obtain ⟨e, d, mv, ml, pipe, hF⟩ := (unhide HV).2 (by omega)
              have hbel := hF.jp.bel
              have HBEL := hide hbel
              have p0 : wr.cell? ⟨P, 0, none⟩ = some (.slice (some ⟨g, 0, none⟩) 2 gcap) := hF.jp.pr.cell 0
              have pl := hF.jp.pr.lt
              have gl : g < wr.heap.size := by obtain ⟨t, ht⟩ := hF.jp.row; exact ht.lt
              have HFT := hide hF
              clear hF hbel HV
              go_wp2_with fail
              go_loopw [13] (fun u wx => ∃ k n : Nat, k ≤ 2 ∧ u = .int .i64 k ∧ wx = wr.drewN n) (fun u _ => 2 - (intOf u).toNat)
              case atStart => exact ⟨0, 0, by omega, rfl, rfl⟩
              case round =>
                obtain ⟨k, n, hk, rfl, rfl⟩ := hrel
                by_cases hk2 : k < 2
                · have hk2' : (k : Int) < 2 := by omega
                  have hF := unhide HFT
                  have rk : wr.cell? ⟨g, k, none⟩ = some (.pointer (some ⟨sd k, 0, none⟩)) := pair_at hF.jp.row hk2
                  have s1 : wr.cell? ⟨sd k, 1, none⟩ = some (mv k) := (hF.jp.side k hk2).cell 1
                  have s2 : wr.cell? ⟨sd k, 2, none⟩ = some (mv (k + 2)) := (hF.jp.side k hk2).cell 2
                  have skl := (hF.jp.side k hk2).lt
                  have hlen2 := hF.len k hk2
                  have hsmall := hF.small k hk2
                  obtain ⟨va, vc, hv⟩ := own_any (hF.jp.ms k (by omega))
                  obtain ⟨vb, vd, hv2⟩ := own_any (hF.jp.ms (k + 2) (by omega))
                  rw [hv] at s1
                  rw [hv2, hlen2] at s2
                  have HVV := hide (⟨hv, hv2, hlen2⟩ : _ ∧ _ ∧ _)
                  generalize hL : (ml k).length = L at *
                  have HL := hide hL
                  clear hF hv hv2 hlen2 hL
                  go_wp2_with fail
                  go_quiet (fail)
                  go_wp2_with fail
                  go_loopw [15] (fun u wx => ∃ i n : Nat, i ≤ L ∧ u = .int .i64 i ∧ wx = wr.drewN n) (fun u _ => L - (intOf u).toNat)
                  case atStart => exact ⟨0, _, Nat.zero_le _, rfl, drewN_two _ _ _⟩
                  case round =>
                    obtain ⟨i, n2, hi, rfl, rfl⟩ := hrel
                    by_cases hil : i < L
                    · have hil' : (i : Int) < L := by omega
                      have hF := unhide HFT
                      obtain ⟨hv, hv2, hlen2⟩ := unhide HVV
                      have hl1 : i < (ml k).length := by have := unhide HL; omega
                      have hl2 : i < (ml (k + 2)).length := by omega
                      obtain ⟨ga, ca, ha1, y1, hga, hca, y2, a1, y3⟩ := owned_mss (hF.jp.ms k (by omega)) hl1
                      obtain ⟨gb, cb, hb1, y4, hgb, hcb, y5, b1, y6, b3, y7⟩ := owned_mss (hF.jp.ms (k + 2) (by omega)) hl2
                      obtain ⟨t1, m', t2, t3⟩ := hF.told k hk2 i (ml (k + 2))[i] (List.getElem?_eq_getElem hl2)
                      have hm' : (ml k)[i] = m' := (List.getElem?_eq_some_iff.1 t2).2
                      rw [t1] at b3
                      rw [t3] at b1
                      rw [hm'] at a1
                      obtain ⟨rfl, rfl⟩ : va = some ⟨ga, 0, none⟩ ∧ vc = ca := by
                        rw [hv] at ha1
                        injection ha1 with k1 k2 k3
                        exact ⟨k1, k3⟩
                      obtain ⟨rfl, rfl⟩ : vb = some ⟨gb, 0, none⟩ ∧ vd = cb := by
                        rw [hv2] at hb1
                        injection hb1 with k1 k2 k3
                        exact ⟨k1, k3⟩
                      have hca' : L ≤ vc := by have := unhide HL; omega
                      have hcb' : L ≤ vd := by have := unhide HL; omega
                      generalize m'.body = bd at *
                      clear hF hv hv2 hlen2 ha1 hb1 t1 t2 t3 hm' y1 y2 y3 y4 y5 y6 y7 hl1 hl2 hca hcb
                      go_wp2_with fail
                      go_quiet (fail)
                      go_wp2_with fail
                      go_roundw
                      case rel => exact ⟨i + 1, _, by omega, by go_num, rfl⟩
                      case measure => simp [intOf]; omega
                    · have hil' : ¬ (i : Int) < L := by omega
                      go_wp2_with fail
                      go_roundw
                      case rel => exact ⟨k + 1, _, by omega, by go_num, rfl⟩
                      case measure => simp [intOf]; omega
                · have hk2' : ¬ (k : Int) < 2 := by omega
                  go_wp2_with fail
                  go_ret
                  exact ⟨rfl, below_dn (unhide HBEL) _⟩
end Go.Proofs.YtbkpdapagfjmmaaGreatDoor
