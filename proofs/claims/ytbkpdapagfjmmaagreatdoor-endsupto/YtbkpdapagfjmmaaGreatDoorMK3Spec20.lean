import Derived.Test.YtbkpdapagfjmmaaGreatDoorMW8W10
import Derived.Test.YtbkpdapagfjmmaaGreatDoorMW11L3
import Derived.BigQuiet
import Derived.BigRegion
import Derived.Test.YtbkpdapagfjmmaaGreatDoorMSpec7N2
set_option linter.unusedVariables false
set_option maxRecDepth 100000
set_option maxHeartbeats 16000000
namespace Go.Proofs.YtbkpdapagfjmmaaGreatDoor
open Go.RowKit
variable {κ : Prop}
def ixO : Option Nat → Int
  | some i => (i : Int)
  | none => -1
theorem REnd.c {w : World} {b : Nat} {e : Lk.En} {p : RP} (h : REnd κ w b e p) (i : Nat) : w.cell? ⟨b, i, none⟩ = (reCells e p)[i]? := h.blk.cell i
theorem rown_any (b : Nat) (e : Lk.En) (p : RP) (k : Int) (w : World) (h : REnd κ w b e p) (hl : e.own.length ≤ 2 ^ 40) :
    Calls Tryz.prog 164 #[.pointer (some ⟨b, 0, none⟩), .int .i64 k] w fun r w' => r = .returned (.int .i64 (ixO (Lk.ownIx e.own k))) ∧ w' = w := by
  have hbl := h.blk.lt
  have c6 : w.cell? ⟨b, 6, none⟩ = some p.wv := h.blk.cell 6
  obtain ⟨va, vc, hv⟩ := row_form h.own
  rw [hv] at c6
  have HV := hide hv
  have HO := hide h.own
  clear h hv
  go_enter Tryz.func164, Tryz.ntmps164
  go_wp2_with fail
  go_loopw [5] (fun u wr => wr = w ∧ ∃ i : Nat, i ≤ e.own.length ∧ u = .int .i64 i ∧ Hid (∀ j o, j < i → e.own[j]? = some o → (o.id : Int) ≠ k)) (fun u _ => e.own.length - (intOf u).toNat)
  case atStart => exact ⟨rfl, 0, Nat.zero_le _, rfl, fun j o hj => by omega⟩
  case round =>
    obtain ⟨rfl, i, hi, rfl, HN⟩ := hrel
    by_cases hlt : i < e.own.length
    · have hlt' : (i : Int) < e.own.length := by omega
      obtain ⟨g, cap, hg, _, hgl, hcap, hc, _⟩ := owned_flat rwV (fun _ => rfl) (uh HO) (List.getElem?_eq_getElem hlt)
      obtain ⟨rfl, rfl⟩ : va = some ⟨g, 0, none⟩ ∧ vc = cap := by
        rw [uh HV] at hg
        injection hg with k1 k2 k3
        exact ⟨k1, k3⟩
      have x0 : wr.cell? ⟨g, i * 4, none⟩ = some (.int .i64 (e.own[i].id : Int)) := hc 0 (by omega)
      by_cases hk : (e.own[i].id : Int) = k
      · have HF : Hid (Lk.ownIx e.own k = some i) := by
          unfold Lk.ownIx
          rw [List.findIdx?_eq_some_iff_getElem]
          refine ⟨hlt, by simpa using hk, fun j hj => ?_⟩
          have := uh HN j e.own[j] hj (List.getElem?_eq_getElem (by omega))
          simpa using this
        have hk' : ((e.own[i].id : Int) == k) = true := by simpa using hk
        generalize (e.own[i].id : Int) = ID at *
        clear hc hg hk
        go_wp2_with fail
        go_ret
        exact ⟨by rw [uh HF]; rfl, rfl⟩
      · have hk' : ((e.own[i].id : Int) == k) = false := by simpa using hk
        have HN2 : Hid (∀ j o, j < i + 1 → e.own[j]? = some o → (o.id : Int) ≠ k) := fun j o hj ho => by
          by_cases hji : j = i
          · subst hji
            rw [List.getElem?_eq_getElem hlt] at ho
            cases ho
            exact hk
          · exact uh HN j o (by omega) ho
        generalize (e.own[i].id : Int) = ID at *
        clear hc hg hk HN
        go_wp2_with fail
        go_roundw
        case rel => exact ⟨by trivial, i + 1, by omega, by go_num, uh HN2⟩
        case measure => simp [intOf]; omega
    · have hlt' : ¬ (i : Int) < e.own.length := by omega
      have HF : Hid (Lk.ownIx e.own k = none) := by
        unfold Lk.ownIx
        rw [List.findIdx?_eq_none_iff]
        intro o ho
        obtain ⟨j, hj⟩ := List.getElem?_of_mem ho
        have := uh HN j o (by have := (List.getElem?_eq_some_iff.1 hj).1; omega) hj
        simpa using this
      clear HN
      go_wp2_with fail
      go_ret
      exact ⟨by rw [uh HF]; rfl, rfl⟩
theorem rother_any (b : Nat) (e : Lk.En) (p : RP) (k : Int) (w : World) (h : REnd κ w b e p) (hl : e.oth.length ≤ 2 ^ 40) :
    Calls Tryz.prog 163 #[.pointer (some ⟨b, 0, none⟩), .int .i64 k] w fun r w' => r = .returned (.int .i64 (ixO (Lk.othIx e.oth k))) ∧ w' = w := by
  have hbl := h.blk.lt
  have c6 : w.cell? ⟨b, 7, none⟩ = some p.tv := h.blk.cell 7
  obtain ⟨va, vc, hv⟩ := row_form h.oth
  rw [hv] at c6
  have HV := hide hv
  have HO := hide h.oth
  clear h hv
  go_enter Tryz.func163, Tryz.ntmps163
  go_wp2_with fail
  go_loopw [5] (fun u wr => wr = w ∧ ∃ i : Nat, i ≤ e.oth.length ∧ u = .int .i64 i ∧ Hid (∀ j o, j < i → e.oth[j]? = some o → (o.id : Int) ≠ k)) (fun u _ => e.oth.length - (intOf u).toNat)
  case atStart => exact ⟨rfl, 0, Nat.zero_le _, rfl, fun j o hj => by omega⟩
  case round =>
    obtain ⟨rfl, i, hi, rfl, HN⟩ := hrel
    by_cases hlt : i < e.oth.length
    · have hlt' : (i : Int) < e.oth.length := by omega
      obtain ⟨g, cap, hg, _, hgl, hcap, hc, _⟩ := owned_flat rtV (fun _ => rfl) (uh HO) (List.getElem?_eq_getElem hlt)
      obtain ⟨rfl, rfl⟩ : va = some ⟨g, 0, none⟩ ∧ vc = cap := by
        rw [uh HV] at hg
        injection hg with k1 k2 k3
        exact ⟨k1, k3⟩
      have x0 : wr.cell? ⟨g, i * 5, none⟩ = some (.int .i64 (e.oth[i].id : Int)) := hc 0 (by omega)
      by_cases hk : (e.oth[i].id : Int) = k
      · have HF : Hid (Lk.othIx e.oth k = some i) := by
          unfold Lk.othIx
          rw [List.findIdx?_eq_some_iff_getElem]
          refine ⟨hlt, by simpa using hk, fun j hj => ?_⟩
          have := uh HN j e.oth[j] hj (List.getElem?_eq_getElem (by omega))
          simpa using this
        have hk' : ((e.oth[i].id : Int) == k) = true := by simpa using hk
        generalize (e.oth[i].id : Int) = ID at *
        clear hc hg hk
        go_wp2_with fail
        go_ret
        exact ⟨by rw [uh HF]; rfl, rfl⟩
      · have hk' : ((e.oth[i].id : Int) == k) = false := by simpa using hk
        have HN2 : Hid (∀ j o, j < i + 1 → e.oth[j]? = some o → (o.id : Int) ≠ k) := fun j o hj ho => by
          by_cases hji : j = i
          · subst hji
            rw [List.getElem?_eq_getElem hlt] at ho
            cases ho
            exact hk
          · exact uh HN j o (by omega) ho
        generalize (e.oth[i].id : Int) = ID at *
        clear hc hg hk HN
        go_wp2_with fail
        go_roundw
        case rel => exact ⟨by trivial, i + 1, by omega, by go_num, uh HN2⟩
        case measure => simp [intOf]; omega
    · have hlt' : ¬ (i : Int) < e.oth.length := by omega
      have HF : Hid (Lk.othIx e.oth k = none) := by
        unfold Lk.othIx
        rw [List.findIdx?_eq_none_iff]
        intro o ho
        obtain ⟨j, hj⟩ := List.getElem?_of_mem ho
        have := uh HN j o (by have := (List.getElem?_eq_some_iff.1 hj).1; omega) hj
        simpa using this
      clear HN
      go_wp2_with fail
      go_ret
      exact ⟨by rw [uh HF]; rfl, rfl⟩
theorem rpack_good (k st : Nat) (d : Lk.Bs) (w : World) (h : Lk.Good k st d) :
    Calls Tryz.prog 56 #[.agg #[.int .i64 (k : Int), .int .i64 (st : Int), .string (bs d)]] w fun r w' => r = .returned (.tuple #[.string (bs (Lk.packed k st d)), .int .i64 0]) ∧ Below w.heap.size w w' := by
  have e : (bs d).data.toList = d := by simp [bs]
  have hl := bs_size d
  have := refPack_yes k st (bs d) w h.k7 h.st28 (by have := h.len; omega) h.stream (by rw [hl]; exact h.length) (by rw [e]; exact h.payload)
  rw [e] at this
  exact this
theorem own_is {w : World} {B : Nat} {e : TypeId} {size n i : Nat} {v : Value} {xs : List Value} (h : w.ownsRow B e size v n xs) (hi : v.ownBlock = some i) : ∃ cs, Is w i e cs := by
  rcases h.2 with ⟨rfl, _⟩ | ⟨g, cap, cur, rfl, _, hg, _⟩
  · cases hi
  · cases hi
    exact ⟨cur.toList, by unfold Is; simpa using hg⟩
theorem QRow.is {w : World} {v : Value} {l : List Lk.Bs} {i : Nat} (h : QRow w v l) (hi : v.ownBlock = some i) : ∃ cs, Is w i 9 cs := by
  rcases h with ⟨rfl, rfl⟩ | ⟨g, off, cap, cur, rfl, hI, _⟩
  · cases hi
  · cases hi
    exact ⟨cur, hI⟩
theorem REnd.apt {w : World} {b : Nat} {e : Lk.En} {p : RP} (h : REnd κ w b e p) {i : Nat} {T : TypeId} {cs : List Value} (hI : Is w i T cs) :
    (T ≠ 200 → b ≠ i) ∧ (T ≠ 196 → p.ob ≠ i ∧ p.ib ≠ i) ∧ (T ≠ 54 → p.rb ≠ i) ∧ (T ≠ 206 → (∀ j, p.vo.ownBlock = some j → j ≠ i) ∧ ∀ j, p.vi.ownBlock = some j → j ≠ i) ∧ (T ≠ 9 → ∀ j, p.rv.ownBlock = some j → j ≠ i) ∧ (T ≠ 258 → ∀ j, p.wv.ownBlock = some j → j ≠ i) ∧ (T ≠ 265 → ∀ j, p.tv.ownBlock = some j → j ≠ i) := by
  obtain ⟨s, f, h1, _⟩ := h.rd
  refine ⟨fun hT => h.blk.ne hI (Ne.symm hT), fun hT => ⟨h.out.blk.ne hI (Ne.symm hT), h.inn.blk.ne hI (Ne.symm hT)⟩, fun hT => h1.ne hI (Ne.symm hT), fun hT => ⟨fun j hj => ?_, fun j hj => ?_⟩, fun hT j hj => ?_, fun hT j hj => ?_, fun hT j hj => ?_⟩
  · obtain ⟨c, hc⟩ := own_is h.out.own hj; exact hc.ne hI (Ne.symm hT)
  · obtain ⟨c, hc⟩ := own_is h.inn.own hj; exact hc.ne hI (Ne.symm hT)
  · obtain ⟨c, hc⟩ := h.row.is hj; exact hc.ne hI (Ne.symm hT)
  · obtain ⟨c, hc⟩ := own_is h.own hj; exact hc.ne hI (Ne.symm hT)
  · obtain ⟨c, hc⟩ := own_is h.oth hj; exact hc.ne hI (Ne.symm hT)
theorem REnd.pushRow {w w' : World} {b : Nat} {e : Lk.En} {p : RP} (h : REnd κ w b e p) {v' : Value} {l : List Lk.Bs} (hq : QRow w' v' l) (hv : v'.ownBlock = p.rv.ownBlock ∨ ∀ k, v'.ownBlock = some k → w.heap.size ≤ k) (hO : Only (fun i => p.rv.ownBlock = some i) w w') : RPost κ w b p { e with row := l } (w'.setCell ⟨b, 5, none⟩ v') := by
  have hap : ∀ i, p.rv.ownBlock = some i → b ≠ i ∧ (p.ob ≠ i ∧ p.ib ≠ i) ∧ p.rb ≠ i ∧ ((∀ j, p.vo.ownBlock = some j → j ≠ i) ∧ ∀ j, p.vi.ownBlock = some j → j ≠ i) ∧ (∀ j, p.wv.ownBlock = some j → j ≠ i) ∧ ∀ j, p.tv.ownBlock = some j → j ≠ i := fun i hi => by
    obtain ⟨cs, hI⟩ := h.row.is hi
    obtain ⟨a1, a2, a3, a4, _, a6, a7⟩ := h.apt hI
    exact ⟨a1 (nbq rfl), a2 (nbq rfl), a3 (nbq rfl), a4 (nbq rfl), a6 (nbq rfl), a7 (nbq rfl)⟩
  have hO2 : Only (fun i => p.rv.ownBlock = some i ∨ i = b) w (w'.setCell ⟨b, 5, none⟩ v') := (hO.mono (fun i hi => .inl hi)).set b 5 v' (fun _ => .inr rfl)
  obtain ⟨c1, c2, c3, c4, c5, c6, c7, c8⟩ := h.apart
  have hn : ∀ i, (∀ j, p.rv.ownBlock = some j → i ≠ j) → i ≠ b → ¬ (p.rv.ownBlock = some i ∨ i = b) := fun i h1 h2 hx => by
    rcases hx with hx | hx
    · exact h1 i hx rfl
    · exact h2 hx
  have hI := (h.blk.only hO (fun hb => (hap b hb).1 rfl)).set 5 v'
  have hbq : ∀ i, v'.ownBlock = some i → i ≠ b := fun i hi => by
    rcases hv with hv | hv
    · rw [hv] at hi
      exact c6 i hi
    · have := hv i hi
      have := h.blk.lt
      omega
  obtain ⟨s, f, r1, r2⟩ := h.rd
  refine ⟨{ p with rv := v' }, ⟨hI, h.out.only hO2 (hn _ (fun j hj => (hap j hj).2.1.1) (Ne.symm c1)) (fun i hi => hn i (fun j hj => (hap j hj).2.2.2.1.1 i hi) (c4 i hi)), h.inn.only hO2 (hn _ (fun j hj => (hap j hj).2.1.2) (Ne.symm c2)) (fun i hi => hn i (fun j hj => (hap j hj).2.2.2.1.2 i hi) (c5 i hi)), ⟨s, f, r1.only hO2 (hn _ (fun j hj => (hap j hj).2.2.1) (Ne.symm c3)), r2⟩, hq.only ((Only.refl (· = b) w').set b 5 v' (fun _ => rfl)) hbq, own_only h.own hO2 (fun i hi => hn i (fun j hj => (hap j hj).2.2.2.2.1 i hi) (c7 i hi)), own_only h.oth hO2 (fun i hi => hn i (fun j hj => (hap j hj).2.2.2.2.2 i hi) (c8 i hi)), h.ne, h.nv⟩, fun i hi => ?_, hO2.mono (fun i hi => ?_)⟩
  · rcases hi with hi | hi | hi | hi | hi | hi | hi | hi | hi
    · exact .inl (.inl hi)
    · exact .inl (.inr (.inl hi))
    · exact .inl (.inr (.inr (.inl hi)))
    · exact .inl (.inr (.inr (.inr (.inl hi))))
    · exact .inl (.inr (.inr (.inr (.inr (.inl hi)))))
    · exact .inl (.inr (.inr (.inr (.inr (.inr (.inl hi))))))
    · rcases hv with hv | hv
      · have hi : v'.ownBlock = some i := hi
        rw [hv] at hi
        exact .inl (.inr (.inr (.inr (.inr (.inr (.inr (.inl hi)))))))
      · exact .inr (hv i hi)
    · exact .inl (.inr (.inr (.inr (.inr (.inr (.inr (.inr (.inl hi))))))))
    · exact .inl (.inr (.inr (.inr (.inr (.inr (.inr (.inr (.inr hi))))))))
  · rcases hi with hi | hi
    · exact .inr (.inr (.inr (.inr (.inr (.inr (.inl hi))))))
    · exact .inl hi
theorem rsend_any (b : Nat) (e : Lk.En) (p : RP) (k st : Nat) (d : Lk.Bs) (w : World) (h : REnd κ w b e p) (hg : Lk.Good k st d) (hl : e.row.length ≤ 2 ^ 42) :
    Calls Tryz.prog 162 #[.pointer (some ⟨b, 0, none⟩), .int .i64 (k : Int), .int .i64 (st : Int), .string (bs d)] w fun r w' => r = .returned (.tuple #[]) ∧ RPost κ w b p (e.send k st d) w' := by
  have HP := hide (rpack_good k st d w hg)
  have HE := hide h
  clear h hg
  go_enter Tryz.func162, Tryz.ntmps162
  go_wp2_with fail
  refine (uh HP).mono ?_
  rintro r w1 ⟨rfl, hb1⟩
  have h1 := (uh HE).below hb1
  have h2 := h1.below ((Below.refl w1.heap.size w1).alloc (Nat.le_refl _) (.cells #[.string (bs (Lk.packed k st d))] 9))
  have c5 : w1.cell? ⟨b, 5, none⟩ = some p.rv := h1.blk.cell 5
  have hbl := h1.blk.lt
  have hI := Is.new w1 9 [.string (bs (Lk.packed k st d))]
  obtain ⟨v', w', hr, hq, hv, hO⟩ := h2.row.push (Lk.packed k st d) ⟨w1.heap.size, 0, none⟩ (hI.cell 0) hl 31
  have HPO : Hid (RPost κ w b p (e.send k st d) (w'.setCell ⟨b, 5, none⟩ v')) := RPost.before (hb1.alloc hb1.size _) (h2.pushRow hq hv hO)
  have hf : w'.frozen? ⟨b, 5, none⟩ = false ∧ w'.cell? ⟨b, 5, none⟩ = some p.rv ∧ b < w'.heap.size := by
    have := h2.blk.only hO (fun hx => (h2.apart.2.2.2.2.2.1 b hx) rfl)
    exact ⟨this.free 5, this.cell 5, this.lt⟩
  obtain ⟨hf1, hf2, hf3⟩ := hf
  obtain ⟨va, vc, hvf⟩ := hq.form
  rw [List.length_append, List.length_singleton] at hvf
  obtain ⟨ra, rc, hrf⟩ := h1.row.form
  rw [hrf] at c5 hr hf2
  subst hvf
  have HR := hide hr
  clear h1 h2 hI hr hq hv hO hrf HE HP hb1
  go_wp2_with (at_builtin; refine Lib.wpList_append_run _ rfl _ _ _ _ rfl _ _ rfl rfl _ _ (uh HR) ?_)
  go_end0
  exact ⟨rfl, uh HPO⟩
end Go.Proofs.YtbkpdapagfjmmaaGreatDoor

namespace Go.Proofs.YtbkpdapagfjmmaaGreatDoor.Lk
def gainAll (f : Fr) : Int := if f.k = 4 ∧ f.st = 0 then (numOf f.d : Int) else 0
def gainOwn (side : Nat) (f : Fr) (m : Nat) : Int := if f.k = 4 ∧ f.st = 2 * m + 1 + side then (numOf f.d : Int) else 0
structure Covers (e : En) (A : Int) (t : Nat → Int) : Prop where
  all : (e.all : Int) ≤ A
  own : ∀ m o, e.own[m]? = some o → (o.cr : Int) ≤ t m
  new : ∀ m, e.own.length ≤ m → (e.win : Int) ≤ t m
theorem Covers.same {e e' : En} {A : Int} {t : Nat → Int} (h : Covers e A t) (h1 : e'.all = e.all) (h2 : e'.own = e.own) (h3 : e'.win = e.win) : Covers e' A t :=
  ⟨by rw [h1]; exact h.all, by rw [h2]; exact h.own, by rw [h2, h3]; exact h.new⟩
theorem Covers.mono {e : En} {A A' : Int} {t t' : Nat → Int} (h : Covers e A t) (hA : A ≤ A') (ht : ∀ m, t m ≤ t' m) : Covers e A' t' :=
  ⟨by have := h.all; omega, fun m o ho => by have := h.own m o ho; have := ht m; omega, fun m hm => by have := h.new m hm; have := ht m; omega⟩
def gainsAll (l : List Fr) : Int := (l.map gainAll).sum
def gainsOwn (side : Nat) (l : List Fr) (m : Nat) : Int := (l.map fun f => gainOwn side f m).sum
def paid (f : Fr) : Int := if f.k = 1 ∨ f.k = 2 then (f.d.length : Int) else 0
def paidOwn (side : Nat) (f : Fr) (m : Nat) : Int := if (f.k = 1 ∨ f.k = 2) ∧ f.st = 2 * m + 1 + side then (f.d.length : Int) else 0
def Pays (side n : Nat) : Int → (Nat → Int) → List Fr → Prop
  | _, _, [] => True
  | A, t, f :: l => ((f.k = 1 ∨ f.k = 2) → (∃ m, m < n ∧ f.st = 2 * m + 1 + side ∧ 0 ≤ t m - f.d.length) ∧ 0 ≤ A - f.d.length) ∧ Pays side n (A - paid f) (fun m => t m - paidOwn side f m) l
def paidAll (l : List Fr) : Int := (l.map paid).sum
def paidsOwn (side : Nat) (l : List Fr) (m : Nat) : Int := (l.map fun f => paidOwn side f m).sum
end Go.Proofs.YtbkpdapagfjmmaaGreatDoor.Lk

namespace Go.Proofs.YtbkpdapagfjmmaaGreatDoor.Lk
def En.dn (e : En) (r : Nat) : En := { e with down := r }
def Dn3 (x : List Ev × Nat × En) (r : Nat) : List Ev × Nat × En := (x.1, x.2.1, x.2.2.dn r)
theorem En.back_dn (e : En) (n : Nat) (r : Nat) : (e.dn r).back n = (e.back n).dn r := by
  unfold En.back
  split <;> rfl
theorem En.bye_dn (e : En) (r : Nat) : (e.dn r).bye = e.bye.dn r := rfl
theorem En.headF_dn (e : En) (f : Fr) (r : Nat) : (e.dn r).headF f = Dn3 (e.headF f) r := by
  unfold En.headF
  show (if f.st ≠ 2 * e.oth.length + 2 - e.side then ([], 4, e.dn r) else _) = _
  by_cases h : f.st ≠ 2 * e.oth.length + 2 - e.side
  · rw [if_pos h, if_pos h]; rfl
  · rw [if_neg h, if_neg h]
    show (match exR 100 f.d 6 e.inn 0 with | .err _ _ => _ | .ok hs L => _) = _
    cases exR 100 f.d 6 e.inn 0 with
    | err a b => rfl
    | ok hs L =>
      show (if e.byeS = true then _ else _) = Dn3 (if e.byeS = true then _ else _) r
      by_cases hb : e.byeS = true
      · rw [if_pos hb, if_pos hb]; rfl
      · rw [if_neg hb, if_neg hb]; rfl
theorem En.pieceF_dn (e : En) (f : Fr) (r : Nat) : (e.dn r).pieceF f = Dn3 (e.pieceF f) r := by
  unfold En.pieceF
  show (match (othIx e.oth f.st).bind fun i => (e.oth[i]?).map fun o => (i, o) with | none => _ | some (i, o) => _) = Dn3 (match (othIx e.oth f.st).bind fun i => (e.oth[i]?).map fun o => (i, o) with | none => _ | some (i, o) => _) r
  cases (othIx e.oth f.st).bind fun i => (e.oth[i]?).map fun o => (i, o) with
  | none => rfl
  | some p =>
    obtain ⟨i, o⟩ := p
    show (if (!o.opn && !o.drp) = true then _ else if o.cr < f.d.length ∨ e.room < f.d.length then _ else if o.opn = true then _ else _) = Dn3 (if (!o.opn && !o.drp) = true then _ else if o.cr < f.d.length ∨ e.room < f.d.length then _ else if o.opn = true then _ else _) r
    split
    · rfl
    · split
      · rfl
      · split
        · rfl
        · unfold Dn3
          simp only
          rw [← En.back_dn]
          rfl
theorem En.resetF_dn (e : En) (f : Fr) (r : Nat) : (e.dn r).resetF f = Dn3 (e.resetF f) r := by
  unfold En.resetF
  show (match (ownIx e.own f.st).bind fun i => (e.own[i]?).map fun o => (i, o) with | some (i, o) => _ | none => match (othIx e.oth f.st).bind fun i => (e.oth[i]?).map fun o => (i, o) with | none => _ | some (i, o) => _) = Dn3 (match (ownIx e.own f.st).bind fun i => (e.own[i]?).map fun o => (i, o) with | some (i, o) => _ | none => match (othIx e.oth f.st).bind fun i => (e.oth[i]?).map fun o => (i, o) with | none => _ | some (i, o) => _) r
  cases (ownIx e.own f.st).bind fun i => (e.own[i]?).map fun o => (i, o) with
  | some p =>
    obtain ⟨i, o⟩ := p
    show (if o.done = true then _ else _) = Dn3 (if o.done = true then _ else _) r
    split <;> rfl
  | none =>
    cases (othIx e.oth f.st).bind fun i => (e.oth[i]?).map fun o => (i, o) with
    | none => rfl
    | some p =>
      obtain ⟨i, o⟩ := p
      show (if o.opn = true then _ else _) = Dn3 (if o.opn = true then _ else _) r
      split
      · unfold Dn3
        simp only
        rw [← En.back_dn]
        rfl
      · rfl
theorem En.creditF_dn (e : En) (f : Fr) (r : Nat) : (e.dn r).creditF f = ((e.creditF f).1, (e.creditF f).2.dn r) := by
  unfold En.creditF
  split
  · show (if numOf f.d = 0 ∨ 100000 < e.all + numOf f.d then _ else _) = ((if numOf f.d = 0 ∨ 100000 < e.all + numOf f.d then _ else _ : Nat × En).1, (if numOf f.d = 0 ∨ 100000 < e.all + numOf f.d then _ else _ : Nat × En).2.dn r)
    split <;> rfl
  · show (match (ownIx e.own f.st).bind fun i => (e.own[i]?).map fun o => (i, o) with | none => _ | some (i, o) => _) = _
    cases (ownIx e.own f.st).bind fun i => (e.own[i]?).map fun o => (i, o) with
    | none => rfl
    | some p =>
      obtain ⟨i, o⟩ := p
      simp only
      split
      · rfl
      · split <;> rfl
theorem En.frame_dn (e : En) (f : Fr) (r : Nat) : (e.dn r).frame f = Dn3 (e.frame f) r := by
  unfold En.frame
  split
  · exact e.headF_dn f r
  · split
    · exact e.pieceF_dn f r
    · split
      · exact e.resetF_dn f r
      · split
        · rw [e.creditF_dn f r]; rfl
        · split
          · rfl
          · split <;> rfl
def En.run : En → List Fr → List Ev × Nat × En
  | e, [] => ([], 0, e)
  | e, f :: l => if (e.frame f).2.1 ≠ 0 then e.frame f else ((e.frame f).1 ++ (En.run (e.frame f).2.2 l).1, (En.run (e.frame f).2.2 l).2)
theorem En.run_dn : ∀ (l : List Fr) (e : En) (r : Nat), (e.dn r).run l = Dn3 (e.run l) r
  | [], e, r => rfl
  | f :: l, e, r => by
    rw [En.run, En.run, e.frame_dn f r]
    show (if (e.frame f).2.1 ≠ 0 then Dn3 (e.frame f) r else _) = _
    by_cases h : (e.frame f).2.1 ≠ 0
    · rw [if_pos h, if_pos h]
    · rw [if_neg h, if_neg h]
      show ((e.frame f).1 ++ (En.run ((e.frame f).2.2.dn r) l).1, (En.run ((e.frame f).2.2.dn r) l).2) = _
      rw [En.run_dn l (e.frame f).2.2 r]
      rfl
theorem En.dn_self (e : En) : e.dn e.down = e := rfl
theorem En.frame_down (e : En) (f : Fr) : (e.frame f).2.2.down = e.down := by
  have := e.frame_dn f e.down
  rw [En.dn_self] at this
  have h2 : (e.frame f).2.2 = (e.frame f).2.2.dn e.down := by
    have h3 := congrArg (fun x => x.2.2) this
    exact h3
  rw [h2]
  rfl
theorem En.run_down : ∀ (l : List Fr) (e : En), (e.run l).2.2.down = e.down
  | [], e => rfl
  | f :: l, e => by
    rw [En.run]
    split
    · exact e.frame_down f
    · rw [En.run_down l]; exact e.frame_down f
theorem En.frames_run : ∀ (l : List Fr) (e : En), e.down = 0 → e.frames l = ((e.run l).1, (e.run l).2.2.dn (e.run l).2.1)
  | [], e, h => by
    show ([], e) = ([], e.dn 0)
    rw [← h]
    rfl
  | f :: l, e, h => by
    rw [En.frames, En.run, if_neg (by rw [h]; simp)]
    by_cases h2 : (e.frame f).2.1 ≠ 0
    · rw [if_pos h2, En.frames_down _ _ (by exact h2)]
      simp only [List.append_nil]
      rfl
    · rw [if_neg h2]
      have h3 : (e.frame f).2.1 = 0 := by omega
      have h4 : ({ (e.frame f).2.2 with down := (e.frame f).2.1 } : En) = (e.frame f).2.2 := by
        rw [h3, ← h, ← e.frame_down f]
      rw [h4, En.frames_run l _ ((e.frame_down f).trans h)]
theorem En.feed_run (e : En) (b : Bs) (hd : e.down = 0) (B : List Fr × Nat × Bs) (hB : Lk.all (e.rest ++ b) = B) (R : List Ev × Nat × En) (hR : ((e.at B.2.2).dn B.2.1).run B.1 = R) :
    e.feed b = (R.1, (R.2.2.dn (if R.2.1 = 0 then B.2.1 else R.2.1)).falls) := by
  rw [e.feed_eq b hd B hB, En.frames_run _ _ hd]
  rw [En.run_dn] at hR
  have h1 : (e.at B.2.2).run B.1 = ((e.run B.1).1, (e.run B.1).2.1, (e.run B.1).2.2.at B.2.2) := by
    have : ∀ (l : List Fr) (e : En) (r : Bs), (e.at r).run l = At3 (e.run l) r := by
      intro l
      induction l with
      | nil => intro e r; rfl
      | cons f l ih =>
        intro e r
        rw [En.run, En.run, e.frame_at f r]
        show (if (e.frame f).2.1 ≠ 0 then At3 (e.frame f) r else _) = _
        by_cases h : (e.frame f).2.1 ≠ 0
        · rw [if_pos h, if_pos h]
        · rw [if_neg h, if_neg h]
          show ((e.frame f).1 ++ (En.run ((e.frame f).2.2.at r) l).1, (En.run ((e.frame f).2.2.at r) l).2) = _
          rw [ih (e.frame f).2.2 r]
          rfl
    exact this _ _ _
  rw [h1] at hR
  subst hR
  show ((e.run B.1).1, _) = ((e.run B.1).1, _)
  refine congrArg (Prod.mk _) (congrArg En.falls ?_)
  show (if (e.run B.1).2.1 = 0 then _ else _) = (((e.run B.1).2.2.at B.2.2).dn (if (e.run B.1).2.1 = 0 then B.2.1 else (e.run B.1).2.1))
  by_cases h : (e.run B.1).2.1 = 0
  · rw [if_pos h, if_pos h]; rfl
  · rw [if_neg h, if_neg h]; rfl
theorem Wf.run : ∀ (l : List Fr) {e : En}, Wf e → (∀ f ∈ l, Good f.k f.st f.d) → Wf (e.run l).2.2
  | [], e, h, _ => h
  | f :: l, e, h, hl => by
    rw [En.run]
    split
    · exact h.frame (hl f (by simp))
    · exact Wf.run l (h.frame (hl f (by simp))) (fun g hg => hl g (by simp [hg]))
theorem En.frame_two (e : En) (f : Fr) : (e.frame f).1.length ≤ 2 := by
  unfold En.frame
  split
  · unfold En.headF
    split
    · simp
    · split
      · simp
      · split <;> simp
  · split
    · unfold En.pieceF
      split
      · simp
      · split
        · simp
        · split
          · simp
          · split
            · rw [List.length_append]
              have h1 : (if 0 < f.d.length then [(⟨2, f.st, 0, [], f.d⟩ : Ev)] else []).length ≤ 1 := by split <;> simp
              have h2 : (if f.k = 2 then [(⟨3, f.st, 0, [], []⟩ : Ev)] else []).length ≤ 1 := by split <;> simp
              omega
            · simp
    · split
      · unfold En.resetF
        split
        · split <;> simp
        · split
          · simp
          · split <;> simp
      · split
        · simp
        · split
          · simp
          · split <;> simp
end Go.Proofs.YtbkpdapagfjmmaaGreatDoor.Lk

namespace Go.Proofs.YtbkpdapagfjmmaaGreatDoor.Lk
theorem En.run_two : ∀ (l : List Fr) (e : En), (e.run l).1.length ≤ 2 * l.length
  | [], e => by simp [En.run]
  | f :: l, e => by
    rw [En.run]
    have h1 := e.frame_two f
    split
    · simp only [List.length_cons]; omega
    · have h2 := En.run_two l (e.frame f).2.2
      rw [List.length_append, List.length_cons]
      omega
theorem all_len3 : ∀ (l : Bs), 3 * (all l).1.length ≤ l.length := by
  intro l
  induction h : l.length using Nat.strongRecOn generalizing l with
  | _ n ih =>
    subst h
    cases hx : nx l with
    | more => rw [all_more hx]; simp
    | err e => rw [all_err hx]; simp
    | frame k st d n =>
      have hb := nx_frame_bounds hx
      have := ih (l.drop n).length (by rw [List.length_drop]; omega) (l.drop n) rfl
      rw [all_frame hx]
      simp only [List.length_cons]
      rw [List.length_drop] at this
      omega
theorem En.feed_len (e : En) (b : Bs) : (e.feed b).1.length ≤ e.rest.length + b.length := by
  by_cases hd : e.down = 0
  · rw [e.feed_run b hd _ rfl _ rfl]
    have h1 := En.run_two (Lk.all (e.rest ++ b)).1 ((e.at (Lk.all (e.rest ++ b)).2.2).dn (Lk.all (e.rest ++ b)).2.1)
    have h2 := all_len3 (e.rest ++ b)
    rw [List.length_append] at h2
    simp only
    omega
  · rw [e.feed_down b hd]
    simp
end Go.Proofs.YtbkpdapagfjmmaaGreatDoor.Lk

namespace Go.Proofs.YtbkpdapagfjmmaaGreatDoor.Lk
structure Ev.Ok (v : Ev) : Prop where
  hs : v.hs.length ≤ 6
  st : v.st ≤ 268435455
  n : v.n ≤ 268435455
  k : v.k ≤ 6
  t : v.t.length ≤ 64
theorem exR_len (B : Nat) (s : Bs) : ∀ (n : Nat) (L : List Hd) (p : Nat) (hs L2 : List Hd), exR B s n L p = .ok hs L2 → hs.length ≤ n
  | 0, L, p, hs, L2, h => by
    rw [exR] at h
    split at h
    · cases h; simp
    · cases h
  | n + 1, L, p, hs, L2, h => by
    rw [exR] at h
    split at h
    · cases h; simp
    · cases hp : partR B L s p with
      | bad q => rw [hp] at h; cases h
      | ok hl q =>
        rw [hp] at h
        simp only at h
        cases hx : exR B s n hl.2 q with
        | err a b => rw [hx] at h; cases h
        | ok hs2 L3 =>
          rw [hx] at h
          cases h
          have := exR_len B s n hl.2 q _ _ hx
          simp
          omega
theorem En.frame_ok (e : En) {f : Fr} (hg : Good f.k f.st f.d) : ∀ v ∈ (e.frame f).1, v.Ok := by
  have h1 := hg.st28
  have h2 := numOf_le f.d
  have h3 := hg.len
  intro v
  unfold En.frame
  split
  · unfold En.headF
    split
    · simp
    · split
      · simp
      · rename_i hs L hx
        have := exR_len _ _ _ _ _ _ _ hx
        split
        · simp
        · intro hv
          simp at hv
          subst hv
          exact ⟨this, h1, by simp, by simp, by simp⟩
  · split
    · unfold En.pieceF
      split
      · simp
      · split
        · simp
        · split
          · simp
          · split
            · intro hv
              rcases List.mem_append.1 hv with hv | hv
              · split at hv
                · simp at hv
                  subst hv
                  exact ⟨by simp, h1, by simp, by simp, h3⟩
                · cases hv
              · split at hv
                · simp at hv
                  subst hv
                  exact ⟨by simp, h1, by simp, by simp, by simp⟩
                · cases hv
            · simp
    · split
      · unfold En.resetF
        split
        · split
          · simp
          · intro hv
            simp at hv
            subst hv
            exact ⟨by simp, h1, h2, by simp, by simp⟩
        · split
          · simp
          · split
            · intro hv
              simp at hv
              subst hv
              exact ⟨by simp, h1, h2, by simp, by simp⟩
            · simp
      · split
        · simp
        · split
          · simp
          · split
            · intro hv
              simp at hv
              subst hv
              exact ⟨by simp, by simp, by simp, by simp, h3⟩
            · intro hv
              simp at hv
              subst hv
              exact ⟨by simp, by simp, h2, by simp, by simp⟩
theorem En.run_ok : ∀ (l : List Fr) (e : En), (∀ f ∈ l, Good f.k f.st f.d) → ∀ v ∈ (e.run l).1, v.Ok
  | [], e, _ => by simp [En.run]
  | f :: l, e, h => by
    have h1 := e.frame_ok (h f (by simp))
    have h2 := En.run_ok l (e.frame f).2.2 (fun g hg => h g (by simp [hg]))
    intro v hv
    rw [En.run] at hv
    split at hv
    · exact h1 v hv
    · rcases List.mem_append.1 hv with hv | hv
      · exact h1 v hv
      · exact h2 v hv
theorem En.feed_ok (e : En) (b : Bs) : ∀ v ∈ (e.feed b).1, v.Ok := by
  by_cases hd : e.down = 0
  · rw [e.feed_run b hd _ rfl _ rfl]
    exact En.run_ok _ _ (all_packs (e.rest ++ b)).1
  · rw [e.feed_down b hd]
    simp
end Go.Proofs.YtbkpdapagfjmmaaGreatDoor.Lk

namespace Go.Proofs.YtbkpdapagfjmmaaGreatDoor.Lk
theorem sum_set {α : Type} (f : α → Nat) : ∀ (l : List α) (i : Nat) (o x : α), l[i]? = some o → ((l.set i x).map f).sum + f o = (l.map f).sum + f x
  | [], i, o, x, h => by simp at h
  | y :: l, 0, o, x, h => by
    simp at h
    subst h
    simp
    omega
  | y :: l, i + 1, o, x, h => by
    have := sum_set f l i o x (by simpa using h)
    simp at this ⊢
    omega
theorem packed_len (k st : Int) (d : Bs) : (packed k st d).length = 1 + (wire st.toNat).length + (wire d.length).length + d.length := by
  unfold packed
  simp
  omega
def rowLen (l : List Bs) : Nat := (l.map List.length).sum
def oweO (o : Ow) : Nat := if o.done then 0 else 7 * o.left.length + 6
def potO (o : Ot) : Nat := if o.opn = true ∧ 0 < o.held then 1 else 0
def En.mass (e : En) : Nat := rowLen e.row + (e.own.map oweO).sum + (e.oth.map potO).sum
def En.gr (e : En) : Nat := if e.byeS then e.oth.length else 0
theorem back_oth (e : En) (n : Nat) : (e.back n).oth = e.oth := by unfold En.back; split <;> rfl
theorem falls_rest (e : En) : e.falls.rest = e.rest := by unfold En.falls; split <;> rfl
theorem back_rest (e : En) (n : Nat) : (e.back n).rest = e.rest := by unfold En.back; split <;> rfl
theorem run_rest : ∀ (l : List Fr) (e : En), (e.run l).2.2.rest = e.rest := by
  have hf : ∀ (e : En) (f : Fr), (e.frame f).2.2.rest = e.rest := by
    intro e f
    have := e.frame_at f e.rest
    rw [En.at_self] at this
    have h2 : (e.frame f).2.2 = (e.frame f).2.2.at e.rest := congrArg (fun x => x.2.2) this
    rw [h2]
    rfl
  intro l
  induction l with
  | nil => intro e; rfl
  | cons f l ih =>
    intro e
    rw [En.run]
    split
    · exact hf e f
    · exact (ih _).trans (hf e f)
theorem drain1_mass {e e' : En} {s : Bs} (hw : Wf e) (h : e.drain1 = some (s, e')) : s.length + e'.mass ≤ e.mass := by
  unfold En.drain1 at h
  split at h
  · rename_i s' r hr
    cases h
    unfold En.mass
    rw [hr]
    simp only [rowLen, List.map_cons, List.sum_cons]
    omega
  · split at h
    · cases h
    · split at h
      · cases h
      · rename_i i hi
        obtain ⟨o, ho, hmay⟩ := next_may hi
        rw [ho] at h
        have h' : e.bodyOf i o = (s, e') := Option.some.inj h
        obtain ⟨rfl, rfl⟩ : (e.bodyOf i o).1 = s ∧ (e.bodyOf i o).2 = e' := by rw [h']; exact ⟨rfl, rfl⟩
        have hid := (hw.own i o ho).id28
        have hm := most_le e o
        have hs := sum_set oweO e.own i o ⟨o.id, o.left.drop (e.most o), o.cr - e.most o, o.done || decide (e.most o = o.left.length)⟩ ho
        have hdone : o.done = false := by
          unfold En.may at hmay
          cases hd : o.done with
          | false => rfl
          | true => rw [hd] at hmay; simp at hmay
        have h1 : oweO o = 7 * o.left.length + 6 := by unfold oweO; rw [hdone]; simp
        have hwl := wire_len_le4 o.id hid
        have hlen : (e.bodyOf i o).1.length ≤ 6 + e.most o := by
          show (packed _ _ (o.left.take (e.most o))).length ≤ _
          rw [packed_len, List.length_take]
          have : min (e.most o) o.left.length = e.most o := by omega
          rw [this, wire_len1 (e.most o) (by omega)]
          simp only [Int.toNat_natCast]
          omega
        have hmass : (e.bodyOf i o).2.mass + oweO o = e.mass + oweO ⟨o.id, o.left.drop (e.most o), o.cr - e.most o, o.done || decide (e.most o = o.left.length)⟩ := by
          unfold En.bodyOf En.mass
          simp only
          omega
        have h2 : oweO ⟨o.id, o.left.drop (e.most o), o.cr - e.most o, o.done || decide (e.most o = o.left.length)⟩ + 6 + e.most o ≤ 7 * o.left.length + 6 := by
          unfold oweO
          rw [hdone]
          simp only [Bool.false_or, decide_eq_true_eq]
          split
          · omega
          · rename_i hn
            have := most_pos hmay hn
            rw [List.length_drop]
            omega
        omega
end Go.Proofs.YtbkpdapagfjmmaaGreatDoor.Lk
