import Derived.Test.YtbkpdapagfjmmaaGreatDoorMSpec22D3
import Derived.Test.YtbkpdapagfjmmaaGreatDoorMD4Spec23
import Derived.Test.YtbkpdapagfjmmaaGreatDoorMSpec13Spec15
import Derived.Test.YtbkpdapagfjmmaaGreatDoorMFQ
import Derived.BigRegion
/-
  Walks: do bytes that are sent keep within the credits?
-/
set_option linter.unusedVariables false
namespace Go.Proofs.YtbkpdapagfjmmaaGreatDoor
open Go.RowKit

/-- The tallies of streams, in memory. -/
def tallyV (t : Nat → Int) (n : Nat) : List Value := (List.range n).map fun m => .int .i64 (t m)
theorem tallyV_at (t : Nat → Int) {n m : Nat} (h : m < n) : (tallyV t n)[m]? = some (.int .i64 (t m)) := by
  unfold tallyV
  rw [List.getElem?_map, List.getElem?_range h]
  rfl
theorem tallyV_set (t t' : Nat → Int) {n m : Nat} (h1 : ∀ i, i ≠ m → t' i = t i) : (tallyV t n).set m (.int .i64 (t' m)) = tallyV t' n := by
  apply List.ext_getElem?
  intro i
  by_cases hi : i < n
  · by_cases him : i = m
    · subst him
      rw [List.getElem?_set_self (by simpa [tallyV] using hi), tallyV_at t' hi]
    · rw [List.getElem?_set_ne (fun e => him e.symm), tallyV_at t hi, tallyV_at t' hi, h1 i him]
  · rw [List.getElem?_eq_none (by simp [tallyV]; omega), List.getElem?_eq_none (by simp [tallyV]; omega)]
theorem Lk.all_packAll (fs : List Lk.Fr) (h : ∀ f ∈ fs, Lk.Good f.k f.st f.d) : Lk.all (Lk.packAll fs) = (fs, 0, []) := by
  induction fs with
  | nil => exact Lk.all_nil
  | cons f fs ih =>
    have e : Lk.packAll (f :: fs) = Lk.packed f.k f.st f.d ++ Lk.packAll fs := by simp [Lk.packAll]
    rw [e, Lk.all_packed (h f (by simp)), ih (fun g hg => h g (by simp [hg]))]

/-- A reader of the document's is fed whole frames. -/
theorem refFeed_fs (b : Nat) (t : ByteArray) (fs : List Lk.Fr) (w : World) (hg : ∀ f ∈ fs, Lk.Good f.k f.st f.d) (ht : t.size ≤ 2 ^ 39) (he : t.data.toList = Lk.packAll fs) (hI : Is w b 54 [.string ⟨#[]⟩, .int .i64 0]) :
    Calls Tryz.prog 21 #[.pointer (some ⟨b, 0, none⟩), .string t] w fun e w' =>
      ∃ v, e = .returned (.tuple #[v, .int .i64 0]) ∧ w'.ownsRow w.heap.size 66 3 v fs.length (framesV fs) ∧ Is w' b 54 [.string ⟨#[]⟩, .int .i64 0] ∧ Turns b w w' := by
  have h := refFeed_any b ⟨#[]⟩ t [] 0 w (fun _ => ⟨rfl, by simp⟩) ht hI
  have ha := Lk.all_packAll fs hg
  have e1 : Lk.fedErr [] 0 t.data.toList = 0 := by unfold Lk.fedErr; rw [if_pos rfl, List.nil_append, he, ha]; rfl
  have e2 : Lk.fedFrames [] 0 t.data.toList = fs := by unfold Lk.fedFrames; rw [if_pos rfl, List.nil_append, he, ha]
  have e3 : Lk.fedRest [] 0 t.data.toList = [] := by unfold Lk.fedRest; rw [if_pos rfl, List.nil_append, he, ha]
  rw [e1, e2, e3] at h
  refine h.mono ?_
  rintro e w' ⟨v, rfl, h1, ⟨s', h2, h3⟩, h4⟩
  have : s' = ⟨#[]⟩ := by
    apply ByteArray.ext
    apply Array.toList_inj.1
    exact h3 rfl
  subst this
  exact ⟨v, rfl, h1, h2, h4⟩
theorem index_own (m : Nat) (st : Int) (w : World) (hm : m ≤ 2 ^ 40) (hst : st = 2 * (m : Int) + 1) :
    Calls Tryz.prog 24 #[.int .i64 st, .int .i64 0] w fun r w' => r = .returned (.int .i64 (m : Int)) ∧ w' = w := by
  have h := index_any st 0 (by omega) w (by omega) (by omega)
  rw [ixN_of (i := m) (by omega)] at h
  exact h

/-- Where the walk of sends stands. -/
structure SR (w : World) (rb ab ob n : Nat) (v : Value) (fs : List Lk.Fr) (A : Int) (t : Nat → Int) (k : Nat) (Ak : Int) (tk : Nat → Int) (wr : World) : Prop where
  row : wr.ownsRow w.heap.size 66 3 v fs.length (framesV fs)
  rd : Is wr rb 54 [.string ⟨#[]⟩, .int .i64 0]
  all : Is wr ab 3 [.int .i64 Ak]
  own : Is wr ob 3 (tallyV tk n)
  pays : Lk.Pays 0 n Ak tk (fs.drop k)
  fa : Ak - Lk.paidAll (fs.drop k) = A - Lk.paidAll fs
  ft : ∀ m, tk m - Lk.paidsOwn 0 (fs.drop k) m = t m - Lk.paidsOwn 0 fs m
  ubA : Ak ≤ A
  ubT : ∀ m, tk m ≤ t m
  only : Only (fun i => i = rb ∨ i = ab ∨ i = ob) w wr
theorem SR.skip {w : World} {rb ab ob n : Nat} {v : Value} {fs : List Lk.Fr} {A : Int} {t : Nat → Int} {k : Nat} {Ak : Int} {tk : Nat → Int} {wr : World} (h : SR w rb ab ob n v fs A t k Ak tk wr) (hk : k < fs.length) (hn : ¬ (fs[k].k = 1 ∨ fs[k].k = 2)) : SR w rb ab ob n v fs A t (k + 1) Ak tk wr := by
  have e := List.drop_eq_getElem_cons hk
  have p0 : Lk.paid fs[k] = 0 := by unfold Lk.paid; rw [if_neg hn]
  have p1 : ∀ m, Lk.paidOwn 0 fs[k] m = 0 := fun m => by unfold Lk.paidOwn; rw [if_neg (fun z => hn z.1)]
  have hp := h.pays
  have ha := h.fa
  have ht := h.ft
  rw [e] at hp ha
  simp only [Lk.Pays, p0, p1, Int.sub_zero] at hp
  simp only [Lk.paidAll, List.map_cons, List.sum_cons, p0, Int.zero_add] at ha
  refine ⟨h.row, h.rd, h.all, h.own, hp.2, ha, fun m => ?_, h.ubA, h.ubT, h.only⟩
  have := ht m
  rw [e] at this
  simp only [Lk.paidsOwn, List.map_cons, List.sum_cons, p1, Int.zero_add] at this
  exact this
theorem SR.pay {w : World} {rb ab ob n : Nat} {v : Value} {fs : List Lk.Fr} {A : Int} {t : Nat → Int} {k : Nat} {Ak : Int} {tk : Nat → Int} {wr : World} (h : SR w rb ab ob n v fs A t k Ak tk wr) (hk : k < fs.length) (hn : fs[k].k = 1 ∨ fs[k].k = 2) (hab : ab < w.heap.size) (hob : ob < w.heap.size) (hne : ab ≠ ob) :
    ∃ m, m < n ∧ fs[k].st = 2 * m + 1 ∧ 0 ≤ tk m - fs[k].d.length ∧ 0 ≤ Ak - fs[k].d.length ∧ ∃ Ak' tk', Ak' = Ak - fs[k].d.length ∧ tk' m = tk m - fs[k].d.length ∧ SR w rb ab ob n v fs A t (k + 1) Ak' tk' ((wr.setCell ⟨ob, m, none⟩ (.int .i64 (tk m - fs[k].d.length))).setCell ⟨ab, 0, none⟩ (.int .i64 (Ak - fs[k].d.length))) := by
  have e := List.drop_eq_getElem_cons hk
  have hp := h.pays
  have ha := h.fa
  have ht := h.ft
  rw [e] at hp ha
  obtain ⟨⟨m, hm, hst, hz⟩, hA⟩ := hp.1 hn
  have p0 : Lk.paid fs[k] = fs[k].d.length := by unfold Lk.paid; rw [if_pos hn]
  have p1 : Lk.paidOwn 0 fs[k] m = fs[k].d.length := by unfold Lk.paidOwn; rw [if_pos ⟨hn, hst⟩]
  have p2 : ∀ i, i ≠ m → Lk.paidOwn 0 fs[k] i = 0 := fun i hi => by unfold Lk.paidOwn; rw [if_neg (fun z => by omega)]
  have hrb : rb ≠ ab ∧ rb ≠ ob := ⟨h.rd.ne h.all (Nat.ne_of_beq_eq_false rfl), h.rd.ne h.own (Nat.ne_of_beq_eq_false rfl)⟩
  refine ⟨m, hm, by omega, hz, hA, Ak - Lk.paid fs[k], fun i => tk i - Lk.paidOwn 0 fs[k] i, by rw [p0], by simp only; rw [p1], ?_⟩
  have hO : Only (fun i => i = ab ∨ i = ob) wr ((wr.setCell ⟨ob, m, none⟩ (.int .i64 (tk m - fs[k].d.length))).setCell ⟨ab, 0, none⟩ (.int .i64 (Ak - fs[k].d.length))) :=
    ((Only.refl _ wr).set ob m _ (fun _ => .inr rfl)).set ab 0 _ (fun _ => .inl rfl)
  refine ⟨own_only h.row hO (fun i hi => ?_), h.rd.only hO (by omega), ?_, ?_, hp.2, ?_, fun i => ?_, ?_, fun i => ?_, h.only.trans hO (fun i hi _ => by rcases hi with rfl | rfl <;> simp)⟩
  · have := h.row.lt i hi
    omega
  · have := (h.all.other ⟨ob, m, none⟩ (.int .i64 (tk m - fs[k].d.length)) hne).set 0 (.int .i64 (Ak - fs[k].d.length))
    rw [p0]
    exact this
  · have h1 := (h.own.set m (.int .i64 (tk m - fs[k].d.length))).other ⟨ab, 0, none⟩ (.int .i64 (Ak - fs[k].d.length)) (Ne.symm hne)
    have h2 := tallyV_set (n := n) (m := m) tk (fun i => tk i - Lk.paidOwn 0 fs[k] i) (fun i hi => by rw [p2 i hi]; omega)
    simp only [p1] at h2
    rw [h2] at h1
    exact h1
  · simp only [Lk.paidAll, List.map_cons, List.sum_cons] at ha ⊢
    omega
  · have := ht i
    rw [e] at this
    simp only [Lk.paidsOwn, List.map_cons, List.sum_cons] at this ⊢
    omega
  · have := h.ubA
    have := Lk.paid_nn fs[k]
    omega
  · have := h.ubT i
    have := Lk.paidOwn_nn 0 fs[k] i
    omega
theorem SR.below {w : World} {rb ab ob n : Nat} {v : Value} {fs : List Lk.Fr} {A : Int} {t : Nat → Int} {k : Nat} {Ak : Int} {tk : Nat → Int} {wr w' : World} (h : SR w rb ab ob n v fs A t k Ak tk wr) (hb : Below wr.heap.size wr w') : SR w rb ab ob n v fs A t k Ak tk w' :=
  have hO := Only.of_below hb (fun _ => False)
  ⟨own_only h.row hO (fun _ _ x => x), h.rd.only hO (fun x => x), h.all.only hO (fun x => x), h.own.only hO (fun x => x), h.pays, h.fa, h.ft, h.ubA, h.ubT, h.only.below hb⟩

set_option maxHeartbeats 2000000 in
set_option maxRecDepth 100000 in
theorem sends_any (rb ab ob n : Nat) (s : ByteArray) (fs : List Lk.Fr) (A : Int) (t : Nat → Int) (w : World) (hR : Is w rb 54 [.string ⟨#[]⟩, .int .i64 0]) (hA : Is w ab 3 [.int .i64 A]) (hO : Is w ob 3 (tallyV t n)) (hne : ab ≠ ob) (hn : n ≤ 2 ^ 30)
    (hs : s.size ≤ 2 ^ 39) (he : s.data.toList = Lk.packAll fs) (hg : ∀ f ∈ fs, Lk.Good f.k f.st f.d) (hp : Lk.Pays 0 n A t fs) (hAu : A ≤ 2 ^ 60) (htu : ∀ m, t m ≤ 2 ^ 60) :
    Calls Tryz.prog 25 #[.pointer (some ⟨rb, 0, none⟩), .string s, .pointer (some ⟨ab, 0, none⟩), .slice (some ⟨ob, 0, none⟩) n n] w fun r w' =>
      r = .returned (.bool true) ∧ Is w' rb 54 [.string ⟨#[]⟩, .int .i64 0] ∧ Is w' ab 3 [.int .i64 (A - Lk.paidAll fs)] ∧ Is w' ob 3 (tallyV (fun m => t m - Lk.paidsOwn 0 fs m) n) ∧ Only (fun i => i = rb ∨ i = ab ∨ i = ob) w w' := by
  have hrlt := hR.lt
  have halt := hA.lt
  have holt := hO.lt
  have hfl : fs.length ≤ 2 ^ 39 := by
    have h1 := Lk.frames_le_bytes fs
    have h2 := size_list s
    rw [← he] at h1
    omega
  have hnr : rb ≠ ab ∧ rb ≠ ob := ⟨hR.ne hA (Nat.ne_of_beq_eq_false rfl), hR.ne hO (Nat.ne_of_beq_eq_false rfl)⟩
  have HF := hide (refFeed_fs rb s fs w hg hs he hR)
  have HFIN : Hid (∀ v w1, w1.ownsRow w.heap.size 66 3 v fs.length (framesV fs) → Is w1 rb 54 [.string ⟨#[]⟩, .int .i64 0] → Turns rb w w1 → SR w rb ab ob n v fs A t 0 A t w1) := by
    intro v w1 h1 h2 h3
    have hT := Only.of_turns h3
    exact ⟨h1, h2, hA.only hT (Ne.symm hnr.1), hO.only hT (Ne.symm hnr.2), hp, by rw [List.drop_zero], fun m => by rw [List.drop_zero], Int.le_refl _, fun _ => Int.le_refl _, hT.mono (fun i hi => .inl hi)⟩
  have HU := hide htu
  have HG := hide hg
  clear hR hA hO hs he hg hp htu
  go_enter Tryz.func25, Tryz.ntmps25
  go_wp2_with fail
  refine (unhide HF).mono ?_
  rintro r w1 ⟨v, rfl, h1, h2, h3⟩
  have HS0 := hide (unhide HFIN v w1 h1 h2 h3)
  have hw1 : w.heap.size ≤ w1.heap.size := h3.size
  obtain ⟨va, vc, hv⟩ := own_any h1
  subst hv
  clear h1 h2 h3 HF HFIN
  go_wp2_with fail
  go_loopw [11] (fun ix wr => ∃ (k : Nat) (Ak : Int) (tk : Nat → Int), ix = .int .i64 k ∧ k ≤ fs.length ∧ Hid (SR w rb ab ob n (.slice va fs.length vc) fs A t k Ak tk wr)) (fun ix _ => fs.length - (intOf ix).toNat)
  case atStart => exact ⟨0, A, t, rfl, Nat.zero_le _, unhide HS0⟩
  case round =>
    clear HS0
    obtain ⟨k, Ak, tk, rfl, hk, HS⟩ := hrel
    have hS := unhide HS
    have hsz : w.heap.size ≤ wr.heap.size := hS.only.size
    by_cases hlt : k < fs.length
    · have hlt' : (k : Int) < fs.length := by omega
      rcases owned_frames hS.row with ⟨h0, _⟩ | ⟨gl, cap, hv, hgB, hgl, hcap, hcell⟩
      · rw [h0] at hlt; simp at hlt
      obtain ⟨rfl, rfl⟩ : va = some ⟨gl, 0, none⟩ ∧ vc = cap := by
        injection hv with h1 h2 h3
        exact ⟨h1, h3⟩
      obtain ⟨c0, c1, c2⟩ := hcell k hlt
      have c2 : wr.cell? ⟨gl, k * 3 + 2, none⟩ = some (.string (bs fs[k].d)) := c2
      have hg := unhide HG fs[k] (List.getElem_mem hlt)
      have hd64 := hg.len
      have hst28 := hg.st28
      have hglo : gl ≠ ob := by omega
      have hgla : gl ≠ ab := by omega
      by_cases hkk : fs[k].k = 1 ∨ fs[k].k = 2
      · obtain ⟨m, hm, hst, hz1, hz2, Ak', tk', hAk', htk', hS2⟩ := hS.pay hlt hkk halt holt hne
        have a0 : wr.cell? ⟨ab, 0, none⟩ = some (.int .i64 Ak) := hS.all.cell 0
        have o0 : wr.cell? ⟨ob, m, none⟩ = some (.int .i64 (tk m)) := by rw [hS.own.cell, tallyV_at tk hm]
        have af := hS.all.free 0
        have oF := hS.own.free m
        have hl1 := hS.all.lt
        have hl2 := hS.own.lt
        have hm' : (m : Int) < n := by omega
        have u1 : tk m ≤ 2 ^ 60 := by have := hS.ubT m; have := unhide HU m; omega
        have u2 : Ak ≤ 2 ^ 60 := by have := hS.ubA; omega
        have HIX := hide (fun W => index_own m fs[k].st W (by omega) (by omega))
        have hbs : ((bs fs[k].d).size : Int) = fs[k].d.length := by rw [bs_size]
        have HS2 := hide hS2
        generalize hTM : tk m = TM at *
        generalize hF : fs[k] = f at *
        obtain ⟨fk, fst, fd⟩ := f
        simp only at c0 c1 c2 hkk hst hz1 hz2 HS2 HIX hst28 hd64 hbs
        have hne' : ob ≠ ab := Ne.symm hne
        clear hS hS2 HS hcell hv hg hAk' htk' hTM hF hst hgB hst28
        rcases hkk with rfl | rfl
        all_goals
          go_wp2_with fail
          refine (unhide HIX _).mono ?_
          rintro r w2 ⟨rfl, rfl⟩
          go_wp2_with fail
          go_region
          go_wp2_with fail
          go_region
          go_wp2_with fail
          go_roundw
          case rel => exact ⟨k + 1, Ak', tk', by go_num, by omega, (unhide HS2).below ⟨rfl, rfl, rfl, Nat.le_refl _, fun _ _ => rfl⟩⟩
          case measure => simp [intOf]; omega
      · have HS2 := hide (hS.skip hlt hkk)
        have k1 : ((fs[k].k : Int) == 1) = false := by simp; omega
        have k2 : ((fs[k].k : Int) == 2) = false := by simp; omega
        generalize hF : fs[k] = f at *
        obtain ⟨fk, fst, fd⟩ := f
        simp only at c0 c1 c2 k1 k2
        clear hS HS hcell hv hg hkk hF
        go_wp2_with fail
        go_roundw
        case rel => exact ⟨k + 1, Ak, tk, by go_num, by omega, unhide HS2⟩
        case measure => simp [intOf]; omega
    · have hlt' : ¬ (k : Int) < fs.length := by omega
      have hk2 : k = fs.length := by omega
      have r0 : wr.cell? ⟨rb, 0, none⟩ = some (.string ⟨#[]⟩) := hS.rd.cell 0
      have rl := hS.rd.lt
      have HFN := hide hS
      have HK := hide hk2
      clear hS HS hk2
      go_wp2_with fail
      go_ret
      have hS := unhide HFN
      have hk2 := unhide HK
      have ha := hS.fa
      have ht := hS.ft
      rw [hk2, List.drop_length] at ha
      have h1 := hS.all
      have e1 : Ak = A - Lk.paidAll fs := by rw [← ha]; simp [Lk.paidAll]
      have e2 : tk = fun m => t m - Lk.paidsOwn 0 fs m := by
        funext m
        have := ht m
        rw [hk2, List.drop_length] at this
        rw [← this]
        simp [Lk.paidsOwn]
      rw [← e1, ← e2]
      exact ⟨rfl, hS.rd, hS.all, hS.own, hS.only⟩
end Go.Proofs.YtbkpdapagfjmmaaGreatDoor

/-
  Memory: what the statement on credits has: an end, two readers of the document's, the tallies.
-/
set_option linter.unusedVariables false
namespace Go.Proofs.YtbkpdapagfjmmaaGreatDoor
open Go.RowKit

structure WS (w0 : World) (eb ib rb ab ob N : Nat) (e : Lk.En) (d : PD) (s : ByteArray) (f : Int) (A : Int) (t : Nat → Int) (w : World) : Prop where
  pe : PEnd w eb e d
  inn : Is w ib 54 [.string s, .int .i64 f]
  out : Is w rb 54 [.string ⟨#[]⟩, .int .i64 0]
  all : Is w ab 3 [.int .i64 A]
  own : Is w ob 3 (tallyV t N)
  n1 : ib ≠ rb
  n2 : ab ≠ ob
  sep : ∀ i, foot eb d i → i ≠ ib ∧ i ≠ rb ∧ i ≠ ab ∧ i ≠ ob
  lo : ∀ i, (foot eb d i ∨ i = ib ∨ i = rb ∨ i = ab ∨ i = ob) → w0.heap.size ≤ i
  fx : Fx w
  h0 : 0 < w0.heap.size
  bel : Below w0.heap.size w0 w

section
variable {w0 w w' : World} {eb ib rb ab ob N : Nat} {e e' : Lk.En} {d d' : PD} {s s' : ByteArray} {f f' A A' : Int} {t t' : Nat → Int}
theorem WS.ne (h : WS w0 eb ib rb ab ob N e d s f A t w) : ib ≠ ab ∧ ib ≠ ob ∧ rb ≠ ab ∧ rb ≠ ob :=
  ⟨h.inn.ne h.all (Nat.ne_of_beq_eq_false rfl), h.inn.ne h.own (Nat.ne_of_beq_eq_false rfl), h.out.ne h.all (Nat.ne_of_beq_eq_false rfl), h.out.ne h.own (Nat.ne_of_beq_eq_false rfl)⟩
theorem WS.below (h : WS w0 eb ib rb ab ob N e d s f A t w) (k : Below w.heap.size w w') : WS w0 eb ib rb ab ob N e d s f A t w' := by
  have hO := Only.of_below k (fun _ => False)
  exact ⟨h.pe.only hO (fun _ _ x => x), h.inn.only hO (fun x => x), h.out.only hO (fun x => x), h.all.only hO (fun x => x), h.own.only hO (fun x => x), h.n1, h.n2, h.sep, h.lo, h.fx.only hO (fun x => x), h.h0, h.bel.trans (k.mono h.bel.size)⟩
/-- The end is called. -/
theorem WS.call (h : WS w0 eb ib rb ab ob N e d s f A t w) (h1 : PEnd w' eb e' d') (h2 : ∀ i, foot eb d' i → foot eb d i ∨ w.heap.size ≤ i) (h3 : Only (foot eb d) w w') : WS w0 eb ib rb ab ob N e' d' s f A t w' := by
  have hn : ∀ i, i = ib ∨ i = rb ∨ i = ab ∨ i = ob → ¬ foot eb d i := fun i hi hf => by have := h.sep i hf; omega
  refine ⟨h1, h.inn.only h3 (hn _ (by simp)), h.out.only h3 (hn _ (by simp)), h.all.only h3 (hn _ (by simp)), h.own.only h3 (hn _ (by simp)), h.n1, h.n2, fun i hi => ?_, fun i hi => ?_, h.fx.only h3 (fun h00 => ?_), h.h0, h.bel.trans (h3.toBelow (fun i hi _ => h.lo i (.inl hi)) h.bel.size)⟩
  · rcases h2 i hi with hi | hi
    · exact h.sep i hi
    · have := h.inn.lt
      have := h.out.lt
      have := h.all.lt
      have := h.own.lt
      omega
  · rcases hi with hi | hi
    · rcases h2 i hi with hi | hi
      · exact h.lo i (.inl hi)
      · have := h.bel.size
        omega
    · exact h.lo i (.inr hi)
  · have := h.lo 0 (.inl h00)
    have := h.h0
    omega
/-- The first reader is fed. -/
theorem WS.fed (h : WS w0 eb ib rb ab ob N e d s f A t w) (h1 : Is w' ib 54 [.string s', .int .i64 f']) (h2 : Turns ib w w') : WS w0 eb ib rb ab ob N e d s' f' A t w' := by
  have hO := Only.of_turns h2
  have hn := h.ne
  refine ⟨h.pe.only hO (fun i hi => (h.sep i hi).1), h1, h.out.only hO (Ne.symm h.n1), h.all.only hO (Ne.symm hn.1), h.own.only hO (Ne.symm hn.2.1), h.n1, h.n2, h.sep, h.lo, h.fx.only hO (fun h00 => ?_), h.h0, h.bel.trans (hO.toBelow (fun i hi _ => h.lo i (.inr (.inl hi))) h.bel.size)⟩
  have := h.lo 0 (.inr (.inl h00))
  have := h.h0
  omega
/-- What is sent is tallied. -/
theorem WS.sent (h : WS w0 eb ib rb ab ob N e d s f A t w) (h1 : Is w' rb 54 [.string ⟨#[]⟩, .int .i64 0]) (h2 : Is w' ab 3 [.int .i64 A']) (h3 : Is w' ob 3 (tallyV t' N)) (hO : Only (fun i => i = rb ∨ i = ab ∨ i = ob) w w') : WS w0 eb ib rb ab ob N e d s f A' t' w' := by
  have hn := h.ne
  have hn1 := h.n1
  refine ⟨h.pe.only hO (fun i hi => by have := h.sep i hi; omega), h.inn.only hO (by omega), h1, h2, h3, h.n1, h.n2, h.sep, h.lo, h.fx.only hO (fun h00 => ?_), h.h0, h.bel.trans (hO.toBelow (fun i hi _ => h.lo i (by omega)) h.bel.size)⟩
  have := h.lo 0 (by omega)
  have := h.h0
  omega
theorem WS.setAll (h : WS w0 eb ib rb ab ob N e d s f A t w) (A' : Int) : WS w0 eb ib rb ab ob N e d s f A' t (w.setCell ⟨ab, 0, none⟩ (.int .i64 A')) := by
  have hn := h.ne
  have hO : Only (fun i => i = rb ∨ i = ab ∨ i = ob) w (w.setCell ⟨ab, 0, none⟩ (.int .i64 A')) := (Only.refl _ w).set ab 0 _ (fun _ => by simp)
  exact h.sent (h.out.other _ _ hn.2.2.1) (h.all.set 0 (.int .i64 A')) (h.own.other _ _ (Ne.symm h.n2)) hO
theorem WS.setOwn (h : WS w0 eb ib rb ab ob N e d s f A t w) (m : Nat) (t' : Nat → Int) (ht : ∀ i, i ≠ m → t' i = t i) : WS w0 eb ib rb ab ob N e d s f A t' (w.setCell ⟨ob, m, none⟩ (.int .i64 (t' m))) := by
  have hn := h.ne
  have hO : Only (fun i => i = rb ∨ i = ab ∨ i = ob) w (w.setCell ⟨ob, m, none⟩ (.int .i64 (t' m))) := (Only.refl _ w).set ob m _ (fun _ => by simp)
  have h1 := h.own.set m (.int .i64 (t' m))
  rw [tallyV_set t t' ht] at h1
  exact h.sent (h.out.other _ _ hn.2.2.2) (h.all.other _ _ h.n2) h1 hO
theorem WS.sameOwn (h : WS w0 eb ib rb ab ob N e d s f A t w) (t' : Nat → Int) (ht : ∀ i, i < N → t' i = t i) : WS w0 eb ib rb ab ob N e d s f A t' w := by
  have e : tallyV t' N = tallyV t N := by
    unfold tallyV
    exact List.map_congr_left (fun i hi => by rw [ht i (List.mem_range.1 hi)])
  exact ⟨h.pe, h.inn, h.out, h.all, by rw [e]; exact h.own, h.n1, h.n2, h.sep, h.lo, h.fx, h.h0, h.bel⟩
end

/-- What a frame that has come brings, as the statement tallies it. -/
theorem gain_take (l : List Lk.Fr) {k : Nat} (hk : k < l.length) : Lk.gainsAll (l.take (k + 1)) = Lk.gainsAll (l.take k) + Lk.gainAll l[k] ∧ ∀ m, Lk.gainsOwn 0 (l.take (k + 1)) m = Lk.gainsOwn 0 (l.take k) m + Lk.gainOwn 0 l[k] m := by
  rw [List.take_succ_eq_append_getElem hk]
  unfold Lk.gainsAll Lk.gainsOwn
  refine ⟨?_, fun m => ?_⟩
  · rw [List.map_append, List.sum_append]
    simp only [List.map_cons, List.map_nil, List.sum_cons, List.sum_nil, Int.add_zero]
  · rw [List.map_append, List.sum_append]
    simp only [List.map_cons, List.map_nil, List.sum_cons, List.sum_nil, Int.add_zero]
theorem gain_none {f : Lk.Fr} (h : f.k ≠ 4) : Lk.gainAll f = 0 ∧ ∀ m, Lk.gainOwn 0 f m = 0 := ⟨by unfold Lk.gainAll; rw [if_neg (fun z => h z.1)], fun m => by unfold Lk.gainOwn; rw [if_neg (fun z => h z.1)]⟩
theorem gain_zero {f : Lk.Fr} (h : f.k = 4) (h0 : f.st = 0) : Lk.gainAll f = Lk.numOf f.d ∧ ∀ m, Lk.gainOwn 0 f m = 0 := ⟨by unfold Lk.gainAll; rw [if_pos ⟨h, h0⟩], fun m => by unfold Lk.gainOwn; rw [if_neg (fun z => by omega)]⟩
theorem gain_it {f : Lk.Fr} (h : f.k = 4) (h0 : f.st ≠ 0) : Lk.gainAll f = 0 ∧ ∀ m, Lk.gainOwn 0 f m = if f.st = 2 * m + 1 then (Lk.numOf f.d : Int) else 0 := by
  refine ⟨by unfold Lk.gainAll; rw [if_neg (fun z => h0 z.2)], fun m => ?_⟩
  unfold Lk.gainOwn
  by_cases e : f.st = 2 * m + 1
  · rw [if_pos ⟨h, by omega⟩, if_pos e]
  · rw [if_neg (fun z => e (by omega)), if_neg e]
end Go.Proofs.YtbkpdapagfjmmaaGreatDoor
