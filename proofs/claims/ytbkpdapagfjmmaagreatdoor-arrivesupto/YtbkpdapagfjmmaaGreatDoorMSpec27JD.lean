import Derived.Test.YtbkpdapagfjmmaaGreatDoorMSpec26
import Derived.Test.YtbkpdapagfjmmaaGreatDoorMSpec16Spec19
import Derived.Test.YtbkpdapagfjmmaaGreatDoorMJ2J4
/-
  Plain mathematics of the document: two ends that belong together, where nothing is reset and no end says bye: all arrives. Imports nothing of the program.
-/
namespace Go.Proofs.YtbkpdapagfjmmaaGreatDoor.Lk

section
variable {a b : En} {p q : Bs} {Q R : List Fr} {Ha Hb : List (List Hd)} {ba ta bb tb : Nat → Bs} {Ga Gb : List (Bs × Bool)} {xa xb : Nat → Nat}

theorem Xd.sendBody {bd told : Nat → Bs} {G : List (Bs × Bool)} {x : Nat → Nat} (h : Xd a b Q R bd told G x) (hw : Wf a) {i : Nat} {o : Ow} (ho : a.own[i]? = some o) (hm : a.may o = true) : Xd (a.bodyOf i o).2 b (Q ++ [a.bodyFr o]) R bd told G x ∧ pend (a.bodyOf i o).2 < pend a := by
  have hl := most_le a o
  have hnd : o.done = false := by
    unfold En.may at hm
    cases hd : o.done with
    | false => rfl
    | true => rw [hd] at hm; simp at hm
  have hlen : (a.bodyFr o).d.length = a.most o := by unfold En.bodyFr; simp only [List.length_take]; omega
  have hkk : (a.bodyFr o).body := by unfold En.bodyFr Fr.body; simp only; split <;> omega
  have hst : (a.bodyFr o).st = o.id := rfl
  have hown : (a.bodyOf i o).2.own = a.own.set i ⟨o.id, o.left.drop (a.most o), o.cr - a.most o, o.done || decide (a.most o = o.left.length)⟩ := rfl
  have hid := (hw.own i o ho).id
  refine ⟨⟨fun j z hz hzd => ?_, ?_, h.bye, h.byeC, h.drp, h.win, fun g hg => ?_, fun j z hz hzd => ?_, h.ended, h.eat⟩, ?_⟩
  · show _ = crOf a.win _
    rw [hown] at hz
    rw [flight_append, List.length_append, flight_cons]
    rcases set_get hz with ⟨rfl, rfl, _⟩ | ⟨hj, hz⟩
    · have hc := h.cr j o ho hnd
      show o.cr - a.most o + ((flight Q o.id).length + (bodyOn o.id (a.bodyFr o) ++ flight [] o.id).length) + credOn R o.id = _
      rw [← hst, bodyOn_it hkk, hst]
      simp only [flight, List.flatMap_nil, List.append_nil]
      rw [hlen]
      simp only [flight] at hc
      omega
    · have hc := h.cr j z hz hzd
      have := (hw.own j z hz).id
      rw [bodyOn_other (by rw [hst]; omega)]
      simp only [flight, List.flatMap_nil, List.append_nil, List.length_nil, Nat.add_zero]
      simp only [flight] at hc
      exact hc
  · have := h.all
    rw [flightAll_append, flightAll_cons, bodyLen_it hkk, hlen]
    show a.all - a.most o + (flightAll Q + (a.most o + flightAll [])) + _ = _
    simp only [flightAll, List.map_nil, List.sum_nil] at this ⊢
    omega
  · rcases List.mem_append.1 hg with hg | hg
    · exact h.k37 g hg
    · simp at hg
      subst hg
      rcases hkk with z | z <;> omega
  · rw [hown] at hz
    rcases set_get hz with ⟨rfl, rfl, _⟩ | ⟨hj, hz⟩
    · refine .inl ⟨a.bodyFr o, by simp, ?_, rfl⟩
      rw [hnd] at hzd
      simp at hzd
      unfold En.bodyFr
      simp only
      rw [if_pos hzd]
    · rcases h.done j z hz hzd with ⟨g, hg, k⟩ | k
      · exact .inl ⟨g, by simp [hg], k⟩
      · exact .inr k
  · unfold pend
    rw [hown]
    have := sum_set owing a.own i o ⟨o.id, o.left.drop (a.most o), o.cr - a.most o, o.done || decide (a.most o = o.left.length)⟩ ho
    have h1 : owing o = o.left.length + 1 := by unfold owing; rw [if_neg (by rw [hnd]; simp)]
    have h2 : owing ⟨o.id, o.left.drop (a.most o), o.cr - a.most o, o.done || decide (a.most o = o.left.length)⟩ < o.left.length + 1 := by
      unfold owing
      simp only [hnd, Bool.false_or]
      by_cases e : a.most o = o.left.length
      · rw [if_pos (by simpa using e)]
        omega
      · rw [if_neg (by simpa using e), List.length_drop]
        have := most_pos hm e
        omega
    omega

theorem may_next {e : En} {i : Nat} {o : Ow} (ho : e.own[i]? = some o) (hm : e.may o = true) : e.next ≠ none := by
  intro hn
  unfold En.next at hn
  split at hn
  · cases hn
  · have hmem : o ∈ e.own := List.mem_of_getElem? ho
    have := List.findIdx?_eq_none_iff.1 hn o hmem
    rw [hm] at this
    cases this

theorem JX.drain1 (h : JX a b p q Ha Hb ba ta bb tb Ga Gb xa xb Q R) {s : Bs} {a' : En} (hd : a.drain1 = some (s, a')) :
    ∃ Q', JX a' b (p ++ s) q Ha Hb ba ta bb tb Ga Gb xa xb Q' R ∧ pings Q' = pings Q ∧ s.length ≤ 73 ∧ ((∃ z, a.row = z :: a'.row ∧ a'.own = a.own ∧ a'.all = a.all) ∨ (a.row = [] ∧ a'.row = [] ∧ pend a' < pend a)) := by
  have hw := h.both.wa.drain1 hd
  obtain ⟨f0, hf0, hgf0⟩ := hw.2
  have hs73 : s.length ≤ 73 := by rw [hf0]; exact good_pack_len hgf0
  have hk := drain1_keep hd
  have hside := drain1_side hd
  obtain ⟨G, W, h1, h2, rfl⟩ := h.wab
  unfold En.drain1 at hd
  cases hr : a.row with
  | cons z r =>
    rw [hr] at hd
    cases hd
    rw [hr] at h2
    cases W with
    | nil => cases h2
    | cons f W =>
      simp at h2
      obtain ⟨rfl, rfl⟩ := h2
      have hB : Both ({ a with row := W.map Fr.pack } : En) b (G ++ f :: W) R Ha Hb ba ta bb tb := ⟨hw.1, h.both.wb, h.both.da, h.both.db, h.both.gq, h.both.gr, h.both.ab.same rfl rfl rfl rfl rfl rfl rfl rfl rfl rfl, h.both.ba.same rfl rfl rfl rfl rfl rfl rfl rfl rfl rfl⟩
      refine ⟨G ++ f :: W, ⟨hB, ⟨G ++ [f], W, ?_, rfl, by simp⟩, h.wba.rest rfl, h.la, h.lb.same rfl (fun x => x), h.ea, h.eb.same rfl, h.xab.same rfl rfl rfl rfl rfl rfl rfl rfl, h.xba.same rfl rfl rfl rfl rfl rfl rfl rfl⟩, rfl, hs73, .inl ⟨_, rfl, rfl, rfl⟩⟩
      rw [packAll_append, ← List.append_assoc, h1]
      simp [packAll, Fr.pack]
  | nil =>
    rw [hr] at hd
    simp only at hd
    have hW : W = [] := by
      rw [hr] at h2
      cases W with
      | nil => rfl
      | cons f W => cases h2
    subst hW
    split at hd
    · cases hd
    · cases hn : a.next with
      | none => rw [hn] at hd; cases hd
      | some i =>
        obtain ⟨o, ho, hm⟩ := next_may hn
        rw [hn] at hd
        simp only at hd
        rw [ho] at hd
        simp only at hd
        have hs : s = (a.bodyOf i o).1 ∧ a' = (a.bodyOf i o).2 := by
          have := Option.some.inj hd
          exact ⟨(congrArg Prod.fst this).symm, (congrArg Prod.snd this).symm⟩
        obtain ⟨rfl, rfl⟩ := hs
        have B := h.both.sendBody ho hm
        obtain ⟨X, hp⟩ := h.xab.sendBody h.both.wa ho hm
        have hk4 : (a.bodyFr o).k ≠ 4 ∧ (a.bodyFr o).k ≠ 5 := by unfold En.bodyFr; simp only; split <;> omega
        refine ⟨G ++ [] ++ [a.bodyFr o], ⟨B, ⟨G ++ [a.bodyFr o], [], ?_, hr, by simp⟩, h.wba.rest rfl, h.la, h.lb.same rfl (fun x => x), h.ea, h.eb.same rfl, X, (h.xba.pushR hk4.1).same rfl rfl rfl rfl rfl rfl rfl rfl⟩, ?_, hs73, .inr ⟨rfl, hr, hp⟩⟩
        · rw [packAll_append, ← List.append_assoc, h1]
          simp [packAll, En.bodyFr, En.bodyOf]
        · rw [pings_append, pings_cons]
          unfold pin
          rw [if_neg hk4.2]
          simp [pings]

theorem JX.drain : ∀ (n : Nat) {a : En} {Q : List Fr} {p : Bs}, JX a b p q Ha Hb ba ta bb tb Ga Gb xa xb Q R →
    ∃ Q', JX (En.drain n a).2 b (p ++ (En.drain n a).1) q Ha Hb ba ta bb tb Ga Gb xa xb Q' R ∧ pings Q' = pings Q ∧ pend (En.drain n a).2 ≤ pend a ∧ (En.drain n a).2.row.length ≤ a.row.length ∧ (a.row.length ≤ n → (En.drain n a).2.row = [])
      ∧ (a.row.length < n → (∃ (i : Nat) (o : Ow), a.own[i]? = some o ∧ a.may o = true) → pend (En.drain n a).2 < pend a) ∧ (En.drain n a).1.length + 73 * (En.drain n a).2.row.length + 73 * pend (En.drain n a).2 ≤ 73 * a.row.length + 73 * pend a
  | 0, a, Q, p, h => ⟨Q, by simpa [En.drain] using h, rfl, Nat.le_refl _, Nat.le_refl _, fun hn => List.eq_nil_of_length_eq_zero (Nat.le_zero.1 hn), fun hn => by omega, by simp [En.drain]⟩
  | n + 1, a, Q, p, h => by
    rw [En.drain]
    cases hd : a.drain1 with
    | none =>
      have hrow : a.row = [] := by
        unfold En.drain1 at hd
        cases hr : a.row with
        | nil => rfl
        | cons z r => rw [hr] at hd; cases hd
      refine ⟨Q, by simpa using h, rfl, Nat.le_refl _, Nat.le_refl _, fun _ => hrow, fun _ ⟨i, o, ho, hm⟩ => ?_, by simp⟩
      exfalso
      unfold En.drain1 at hd
      rw [hrow] at hd
      simp only at hd
      rw [if_neg (by rw [h.both.da]; simp)] at hd
      cases hn : a.next with
      | none => exact may_next ho hm hn
      | some k =>
        rw [hn] at hd
        obtain ⟨o', ho', _⟩ := next_may hn
        simp only at hd
        rw [ho'] at hd
        cases hd
    | some z =>
      obtain ⟨s, a'⟩ := z
      obtain ⟨Q1, h1, e1, e2, hcase⟩ := h.drain1 hd
      obtain ⟨Q2, h2, f1, f2, f3, f4, f5, f6⟩ := JX.drain n h1
      have hpe : pend a' ≤ pend a ∧ a'.row.length ≤ a.row.length ∧ a'.row.length + pend a' + 1 ≤ a.row.length + pend a ∧ (a.row.length ≤ n + 1 → a'.row.length ≤ n) := by
        rcases hcase with ⟨z, k1, k2, _⟩ | ⟨k1, k2, k3⟩
        · have : pend a' = pend a := by unfold pend; rw [k2]
          rw [k1]
          simp
          omega
        · rw [k1, k2]
          simp
          omega
      refine ⟨Q2, by simpa using h2, f1.trans e1, by simp only; omega, by simp only; omega, fun hn => f4 (hpe.2.2.2 hn), fun hn hm => ?_, ?_⟩
      · simp only
        rcases hcase with ⟨z, k1, k2, k3⟩ | ⟨k1, k2, k3⟩
        · have hp : pend a' = pend a := by unfold pend; rw [k2]
          rw [← hp]
          refine f5 (by rw [k1] at hn; simp at hn; omega) ?_
          obtain ⟨i, o, ho, hmm⟩ := hm
          refine ⟨i, o, by rw [k2]; exact ho, ?_⟩
          unfold En.may at hmm ⊢
          rw [k3]
          exact hmm
        · omega
      · simp only [List.length_append]
        omega

theorem Both.framesX : ∀ (G : List Fr) {b : En} {R : List Fr} {ta : Nat → Bs} {Ga : List (Bs × Bool)}, Both a b (G ++ Q) R Ha Hb ba ta bb tb → Xd a b (G ++ Q) R ba ta Ga xa → Xd b a R (G ++ Q) bb tb Gb xb → Lis b ta Ga → Eats b ta Ga xa →
    ∃ S ta' Ga', Sent b (b.frames G).2 S ∧ (b.frames G).2.rest = b.rest ∧ Both a (b.frames G).2 Q (R ++ S) Ha Hb ba ta' bb tb ∧ hearL a.side Ha ba Ga (b.frames G).1 = some Ga' ∧ Lis (b.frames G).2 ta' Ga' ∧ Eats (b.frames G).2 ta' Ga' xa
      ∧ Xd a (b.frames G).2 Q (R ++ S) ba ta' Ga' xa ∧ Xd (b.frames G).2 a (R ++ S) Q bb tb Gb xb ∧ (∀ g ∈ S, g.k = 6) ∧ S.length ≤ pings G ∧ pend (b.frames G).2 = pend b
  | [], b, R, ta, Ga, h, hx, hy, hl, he => ⟨[], ta, Ga, Sent.refl b, rfl, by simpa [En.frames] using h, rfl, hl, he, by simpa [En.frames] using hx, by simpa [En.frames] using hy, by simp, by simp, rfl⟩
  | f :: G, b, R, ta, Ga, h, hx, hy, hl, he => by
    obtain ⟨h0, _⟩ := h.recv
    obtain ⟨S, ta', Ga', hS, hB, e1, l1, he1, x1, y1, s6, s1, hsh⟩ := h.recvX hx hy hl he
    have hd : (b.frame f).2.2.down = 0 := hB.db
    have hr : (b.frame f).2.2.rest = b.rest := by
      have := b.frame_at f b.rest
      rw [b.at_self] at this
      rw [this]
      rfl
    have e : b.frames (f :: G) = ((b.frame f).1 ++ ((b.frame f).2.2.frames G).1, ((b.frame f).2.2.frames G).2) := by
      rw [En.frames, if_neg (by rw [h.db]; simp), h0, En.eta_down hd]
    have hpe : pend (b.frame f).2.2 = pend b := by
      unfold Shape at hsh
      generalize (b.frame f).2.2 = b' at hsh
      rcases hsh with ⟨_, L, rfl⟩ | ⟨_, i, p, _, _, _, _, _, rfl⟩ | ⟨_, _, rfl⟩ | ⟨_, _, i, o, ho, _, hcase⟩ | ⟨_, rfl⟩ | ⟨_, rfl⟩
      · rfl
      · rfl
      · rfl
      · rcases hcase with ⟨_, rfl⟩ | ⟨_, rfl⟩
        · rfl
        · unfold pend
          have := sum_set owing b.own i o { o with cr := o.cr + numOf f.d } ho
          have h2 : owing { o with cr := o.cr + numOf f.d } = owing o := rfl
          show ((b.own.set i { o with cr := o.cr + numOf f.d }).map owing).sum = _
          omega
      · rfl
      · rfl
    obtain ⟨S2, ta2, Ga2, hS2, hr2, hB2, e2, l2, he2, x2, y2, s62, s12, p2⟩ := Both.framesX G hB x1 y1 l1 he1
    rw [e]
    refine ⟨S ++ S2, ta2, Ga2, ?_, hr2.trans hr, by rw [← List.append_assoc]; exact hB2, by rw [hearL_append, e1]; exact e2, l2, he2, by rw [← List.append_assoc]; exact x2, by rw [← List.append_assoc]; exact y2, fun g hg => ?_, ?_, p2.trans hpe⟩
    · unfold Sent at hS hS2 ⊢
      rw [hS2, hS]
      simp
    · rcases List.mem_append.1 hg with hg | hg
      · exact (s6 g hg).2
      · exact s62 g hg
    · rw [List.length_append, pings_cons]
      have : S.length ≤ pin f := by
        cases S with
        | nil => simp
        | cons g S =>
          have := (s6 g (by simp)).1
          unfold pin
          rw [if_pos this]
          exact s1
      omega

/-- Bytes of a come to b. -/
theorem JX.move {x y : Bs} (h : JX a b (x ++ y) q Ha Hb ba ta bb tb Ga Gb xa xb Q R) : (b.feed x).2.down = 0 ∧ ∃ S Q' ta' Ga', hearL a.side Ha ba Ga (b.feed x).1 = some Ga' ∧ JX a (b.feed x).2 y q Ha Hb ba ta' bb tb Ga' Gb xa xb Q' (R ++ S)
    ∧ (b.feed x).2.row.length = b.row.length + S.length ∧ S.length + pings Q' ≤ pings Q ∧ (∀ g ∈ S, g.k = 6) ∧ pend (b.feed x).2 = pend b ∧ (y = [] → a.row = [] → Q' = []) := by
  obtain ⟨G, W, hp, hw, rfl⟩ := h.wab
  obtain ⟨G1, G2, r, rfl, hall, hr⟩ := all_cut G (b.rest ++ x) y (fun f hf => h.both.gq f (by simp [hf])) (by rw [List.append_assoc]; exact hp.symm)
  have hb := h.both
  have hx := h.xab
  have hy := h.xba
  have hgG2 : ∀ f ∈ G2, Good f.k f.st f.d := fun f hf => hb.gq f (by simp [hf])
  rw [List.append_assoc] at hb hx hy
  obtain ⟨S, ta', Ga', hS, hrest, hB, e1, l1, he1, x1, y1, s6, s1, p1⟩ := Both.framesX G1 hb hx hy h.la h.ea
  have hrr : Lk.all r = ([], 0, r) := by
    have := all_rest (b.rest ++ x)
    rw [hall] at this
    exact this
  have e : b.feed x = ((b.frames G1).1, (b.frames G1).2.at r) := by
    have hd : (b.frames G1).2.down = 0 := hB.db
    rw [b.feed_eq x h.both.db _ hall]
    simp only
    rw [if_pos hd]
    have : ({ (b.frames G1).2.at r with down := 0 } : En) = (b.frames G1).2.at r := En.eta_down hd
    rw [this]
    unfold En.falls
    rw [if_neg (fun z => z.1 hd)]
  rw [e]
  refine ⟨hB.db, S, G2 ++ W, ta', Ga', e1, ⟨hB.at hrr, ⟨G2, W, hr.symm, hw, rfl⟩, h.wba.sent hS, ⟨l1.len, l1.bye, l1.told, l1.opn⟩, h.lb, ⟨he1.le, he1.has, he1.new⟩, h.eb, x1.same rfl rfl rfl rfl rfl rfl rfl rfl, y1.same rfl rfl rfl rfl rfl rfl rfl rfl⟩, ?_, ?_, s6, p1, fun hy0 hrow => ?_⟩
  · show (b.frames G1).2.row.length = _
    unfold Sent at hS
    rw [hS]
    simp
  · simp only [pings_append]
    omega
  · have hW : W = [] := by
      rw [hrow] at hw
      cases W with
      | nil => rfl
      | cons f W => cases hw
    subst hy0 hW
    rw [List.append_nil] at hr
    have := all_packFs G2 hgG2
    rw [hr, hrr] at this
    simp at this
    simp [this.1]

/-- All that has come of a stream is consumed. -/
theorem JX.eat1 (h : JX a b p q Ha Hb ba ta bb tb Ga Gb xa xb Q R) {i : Nat} {y : Ot} (hy : a.oth[i]? = some y) (h0 : 0 < y.held) :
    (a.consumeC (2 * i + 1 + b.side) y.held).1 = 0 ∧ ∃ S, JX (a.consumeC (2 * i + 1 + b.side) y.held).2 b p q Ha Hb ba ta bb tb Ga Gb xa (fun j => if j = i then xb i + y.held else xb j) (Q ++ S) R
      ∧ (a.consumeC (2 * i + 1 + b.side) y.held).2.oth = a.oth.set i (y.eat y.held) ∧ (a.consumeC (2 * i + 1 + b.side) y.held).2.own = a.own ∧ (∀ f ∈ S, f.k = 4)
      ∧ (a.consumeC (2 * i + 1 + b.side) y.held).2.row.length + 2 * a.room ≤ a.row.length + 2 * (a.consumeC (2 * i + 1 + b.side) y.held).2.room := by
  have hid := h.both.swap.ids hy
  have hix := othIx_it h.both.wa hy
  have hok : (a.consumeC (2 * i + 1 + b.side) y.held).1 = 0 := by
    have e : ((y.id : Nat) : Int) = 2 * (i : Int) + 1 + b.side := by omega
    rw [← e]
    unfold En.consumeC
    rw [if_neg (by rw [h.both.da]; simp), if_neg (by omega), hix]
    simp only
    rw [hy]
    simp only
    rw [if_neg (by omega)]
  rcases h.consume (2 * i + 1 + b.side) y.held with ⟨x, _⟩ | ⟨_, k, z, S, hz, hst, _, _, ho, hw, hJ, hr, h4, hrm⟩
  · exact absurd hok x
  · have hk : k = i := by omega
    subst hk
    have e0 : z = y := by rw [hy] at hz; exact (Option.some.inj hz).symm
    subst e0
    simp only [Int.toNat_natCast] at ho hJ hrm
    refine ⟨hok, S, hJ, ho, hw, h4, ?_⟩
    omega

theorem JX.left_le (h : JX a b p q Ha Hb ba ta bb tb Ga Gb xa xb Q R) {i : Nat} {o : Ow} (ho : a.own[i]? = some o) : owing o ≤ (ba i).length + 1 := by
  unfold owing
  split
  · omega
  · rename_i hd
    have hb := h.both.ab.body i o ho
    cases hp : b.oth[i]? with
    | none =>
      rw [hp] at hb
      rw [hb.2, List.length_append]
      omega
    | some y =>
      rw [hp] at hb
      simp only at hb
      have hop : y.opn = true := by
        cases hc : y.opn with
        | true => rfl
        | false =>
          have := h.both.ab.fin i o y ho hp hc (h.xab.drp i y hp)
          exact absurd this hd
      rw [if_pos hop] at hb
      rw [hb, List.length_append, List.length_append]
      omega
/-- Where all credits are back, whoever has something to send may send. -/
theorem JX.may (h : JX a b p q Ha Hb ba ta bb tb Ga Gb xa xb Q R) (hR : ∀ f ∈ R, f.k ≠ 4) (hq : ∀ f ∈ Q, ¬ f.body) (hh : ∀ (i : Nat) (y : Ot), b.oth[i]? = some y → y.held = 0) (hp : 0 < pend a) : ∃ (i : Nat) (o : Ow), a.own[i]? = some o ∧ a.may o = true := by
  have c0 : ∀ id, credOn R id = 0 := fun id => credOn_nil (fun f hf hk => absurd hk (hR f hf))
  have f0 : ∀ id, flight Q id = [] := fun id => flight_nil (fun f hf _ => hq f hf)
  have fa : flightAll Q = 0 := by
    clear h f0
    induction Q with
    | nil => rfl
    | cons f Q ih =>
      rw [flightAll_cons, bodyLen_none (hq f (by simp)), ih (fun g hg => hq g (by simp [hg]))]
  have hall : 0 < a.all := by
    have := h.xab.all
    rw [fa, c0] at this
    have hrm := h.both.wb.room
    have h1 := h.both.wb.win1
    have hs : heldSum b.oth = 0 := by
      have : ∀ (l : List Ot), (∀ y ∈ l, y.held = 0) → heldSum l = 0 := fun l hl => by
        unfold heldSum
        induction l with
        | nil => rfl
        | cons y l ih =>
          simp only [List.map_cons, List.sum_cons]
          rw [hl y (by simp), ih (fun z hz => hl z (by simp [hz]))]
      exact this _ (fun y hy => by
        obtain ⟨i, hi⟩ := List.getElem?_of_mem hy
        exact hh i y hi)
    omega
  have hex : ∃ o ∈ a.own, o.done = false := by
    unfold pend at hp
    have : ∀ (l : List Ow), 0 < (l.map owing).sum → ∃ o ∈ l, o.done = false := fun l hl => by
      induction l with
      | nil => simp at hl
      | cons o l ih =>
        cases hd : o.done with
        | false => exact ⟨o, by simp, hd⟩
        | true =>
          have e : owing o = 0 := by unfold owing; rw [if_pos hd]
          simp only [List.map_cons, List.sum_cons, e, Nat.zero_add] at hl
          obtain ⟨z, hz, hzd⟩ := ih hl
          exact ⟨z, by simp [hz], hzd⟩
    exact this _ hp
  obtain ⟨o, ho, hd⟩ := hex
  obtain ⟨i, hi⟩ := List.getElem?_of_mem ho
  refine ⟨i, o, hi, ?_⟩
  have hc := h.xab.cr i o hi hd
  rw [f0, c0] at hc
  have hcr : 0 < o.cr := by
    have h1 := h.both.wa.win1
    have h2 := h.both.wb.win1
    cases hpb : b.oth[i]? with
    | none =>
      rw [hpb] at hc
      simp [crOf] at hc
      omega
    | some y =>
      rw [hpb] at hc
      simp [crOf] at hc
      have hop : y.opn = true := by
        cases hco : y.opn with
        | true => rfl
        | false =>
          have := h.both.ab.fin i o y hi hpb hco (h.xab.drp i y hpb)
          rw [hd] at this
          cases this
      have := h.xab.win i y hpb hop
      have := hh i y hpb
      omega
  unfold En.may
  simp [hd, hcr, hall]
theorem mem_le_sum {x : Nat} {l : List Nat} (h : x ∈ l) : x ≤ l.sum := by
  induction l with
  | nil => simp at h
  | cons y l ih =>
    rw [List.sum_cons]
    rcases List.mem_cons.1 h with e | e
    · omega
    · have := ih e
      omega
theorem Heads.same {s : Nat} : ∀ {Q : List Fr} {n m : Nat}, Heads s n Q m → (∀ f ∈ Q, f.k ≠ 0) → n = m
  | [], n, m, h, _ => h
  | f :: l, n, m, h, hq => by
    rw [Heads, if_neg (hq f (by simp))] at h
    exact Heads.same h.2 (fun g hg => hq g (by simp [hg]))
/-- Where nothing is left to send, nor on its way: all is told, whole. -/
theorem JX.final (h : JX a b p q Ha Hb ba ta bb tb Ga Gb xa xb Q R) (hq : ∀ f ∈ Q, f.k ≠ 0 ∧ f.k ≠ 2) (hp : pend a = 0) : Ga.length = Ha.length ∧ ∀ (i : Nat) (g : Bs × Bool), Ga[i]? = some g → g = (ba i, true) := by
  have hn := h.both.ab.heads.same (fun f hf => (hq f hf).1)
  have hlen := h.both.ab.len
  have hG := h.la.bye h.xba.bye
  refine ⟨by omega, fun i g hg => ?_⟩
  have hi : i < a.own.length := by have := lt_of_get hg; omega
  have ho : a.own[i]? = some a.own[i] := List.getElem?_eq_getElem hi
  have hd : (a.own[i]).done = true := by
    cases hc : (a.own[i]).done with
    | true => rfl
    | false =>
      exfalso
      have hmem : owing a.own[i] ∈ a.own.map owing := List.mem_map.2 ⟨_, List.getElem_mem hi, rfl⟩
      have h1 := mem_le_sum hmem
      have h2 : owing a.own[i] = a.own[i].left.length + 1 := by unfold owing; rw [if_neg (by rw [hc]; simp)]
      unfold pend at hp
      omega
  rcases h.xab.done i _ ho hd with ⟨f, hf, hk, _⟩ | ⟨t, ht⟩
  · exact absurd hk (hq f hf).2
  · rw [hg] at ht
    cases ht
    have := h.xab.ended i t hg
    rw [this]
end
end Go.Proofs.YtbkpdapagfjmmaaGreatDoor.Lk

/-
  Two ends that belong together, where nothing is reset and no end says bye: by number.
-/
namespace Go.Proofs.YtbkpdapagfjmmaaGreatDoor

def JXM (k j : Nat) (e : Nat → Lk.En) (pipe : Nat → Lk.Bs) (ml : Nat → List Ms) (Q R : List Lk.Fr) : Prop :=
  ∃ ta tb, Lk.JX (e k) (e j) (pipe k) (pipe j) (hsL (ml k)) (hsL (ml j)) (bdF (ml k)) ta (bdF (ml j)) tb (gtL (ml (k + 2))) (gtL (ml (j + 2))) (etF (ml (k + 2))) (etF (ml (j + 2))) Q R
/-- F k: the frames on their way from side k. -/
def JXS (e : Nat → Lk.En) (pipe : Nat → Lk.Bs) (ml : Nat → List Ms) (F : Nat → List Lk.Fr) : Prop := JXM 0 1 e pipe ml (F 0) (F 1)
def cnt (e : Nat → Lk.En) (F : Nat → List Lk.Fr) : Nat := (e 0).row.length + (e 1).row.length + Lk.pings (F 0) + Lk.pings (F 1)

section
variable {e : Nat → Lk.En} {pipe : Nat → Lk.Bs} {ml ml' : Nat → List Ms} {F : Nat → List Lk.Fr} {n k j : Nat}
theorem JXM.swap {Q R : List Lk.Fr} (h : JXM k j e pipe ml Q R) : JXM j k e pipe ml R Q := by
  obtain ⟨ta, tb, h⟩ := h
  exact ⟨tb, ta, h.swap⟩
theorem JXS.at (h : JXS e pipe ml F) (hk : k < 2) (hj : j < 2) (hkj : k ≠ j) : JXM k j e pipe ml (F k) (F j) := by
  have : (k = 0 ∧ j = 1) ∨ (k = 1 ∧ j = 0) := by omega
  rcases this with ⟨rfl, rfl⟩ | ⟨rfl, rfl⟩
  · exact h
  · exact JXM.swap h
theorem JXS.of (hk : k < 2) (hj : j < 2) (hkj : k ≠ j) (h : JXM k j e pipe ml (F k) (F j)) : JXS e pipe ml F := by
  have : (k = 0 ∧ j = 1) ∨ (k = 1 ∧ j = 0) := by omega
  rcases this with ⟨rfl, rfl⟩ | ⟨rfl, rfl⟩
  · exact h
  · exact JXM.swap h
theorem cnt_at (hk : k < 2) (hj : j < 2) (hkj : k ≠ j) : cnt e F = (e k).row.length + (e j).row.length + Lk.pings (F k) + Lk.pings (F j) := by
  unfold cnt
  have : (k = 0 ∧ j = 1) ∨ (k = 1 ∧ j = 0) := by omega
  rcases this with ⟨rfl, rfl⟩ | ⟨rfl, rfl⟩ <;> omega
theorem other_of (hk : k < 2) : ∃ j, j < 2 ∧ k ≠ j := ⟨1 - k, by omega, by omega⟩

theorem JXS.start {win : Nat} (h1 : 1 ≤ win) (h2 : win ≤ 200) : JXS (fun k => Lk.En.new k win) (fun _ => []) (fun _ => []) (fun _ => []) ∧ cnt (fun k => Lk.En.new k win) (fun _ => []) = 0 := by
  refine ⟨⟨fun _ => [], fun _ => [], ?_⟩, rfl⟩
  have : bdF ([] : List Ms) = fun _ => [] := by funext i; simp [bdF]
  have h3 : etF ([] : List Ms) = fun _ => 0 := by funext i; simp [etF]
  simp only [this, h3]
  exact Lk.JX.start 0 1 win rfl h1 h2
theorem JXS.ping (h : JXS e pipe ml F) (hk : k < 2) (t : Lk.Bs) : ∃ F', JXS (upd e k ((e k).pingC t).2) pipe ml F' ∧ cnt (upd e k ((e k).pingC t).2) F' ≤ cnt e F + 2 := by
  obtain ⟨j, hj, hkj⟩ := other_of hk
  obtain ⟨ta, tb, hJ⟩ := h.at hk hj hkj
  obtain ⟨S, h1, h2, _⟩ := hJ.ping t
  refine ⟨upd F k (F k ++ S), JXS.of hk hj hkj ⟨ta, tb, ?_⟩, ?_⟩
  · rw [(upd_at e _ hkj).1, (upd_at e _ hkj).2, (upd_at F _ hkj).1, (upd_at F _ hkj).2]
    exact h1
  · rw [cnt_at hk hj hkj, cnt_at hk hj hkj, (upd_at e _ hkj).1, (upd_at e _ hkj).2, (upd_at F _ hkj).1, (upd_at F _ hkj).2, Lk.pings_append]
    omega
theorem JXS.submit (h : JXS e pipe ml F) (hk : k < 2) (l : List Lk.Hd) (body : Lk.Bs) :
    (((e k).submitC l body).1.2.1 ≠ 0 ∧ ∃ F', JXS (upd e k ((e k).submitC l body).2) pipe ml F' ∧ cnt (upd e k ((e k).submitC l body).2) F' ≤ cnt e F + 2) ∨
    (((e k).submitC l body).1.2.1 = 0 ∧ ∀ hv, ∃ F', JXS (upd e k ((e k).submitC l body).2) pipe (upd ml k (ml k ++ [⟨hv, l, body, false, false, false, 0⟩])) F' ∧ cnt (upd e k ((e k).submitC l body).2) F' ≤ cnt e F + 2) := by
  obtain ⟨j, hj, hkj⟩ := other_of hk
  obtain ⟨ta, tb, hJ⟩ := h.at hk hj hkj
  rcases hJ.submit l body with ⟨h1, h2⟩ | ⟨h1, S, h2, h3⟩
  · refine .inl ⟨h1, F, ?_, ?_⟩
    · rw [h2, upd_self_e]
      exact h
    · rw [h2, upd_self_e]
      omega
  · refine .inr ⟨by rw [h1], fun hv => ⟨upd F k (F k ++ S), JXS.of hk hj hkj ⟨Lk.updN ta (ml k).length [], tb, ?_⟩, ?_⟩⟩
    · rw [(upd_at e _ hkj).1, (upd_at e _ hkj).2, (upd_at F _ hkj).1, (upd_at F _ hkj).2, upd_same, upd_other _ _ (Ne.symm hkj), upd_other _ _ (show k + 2 ≠ k by omega), upd_other _ _ (show j + 2 ≠ k by omega), bdF_push]
      rw [hsL_len] at h2
      have : hsL (ml k ++ [⟨hv, l, body, false, false, false, 0⟩]) = hsL (ml k) ++ [l] := by simp [hsL]
      rw [this]
      exact h2
    · rw [cnt_at hk hj hkj, cnt_at hk hj hkj, (upd_at e _ hkj).1, (upd_at e _ hkj).2, (upd_at F _ hkj).1, (upd_at F _ hkj).2, Lk.pings_append]
      omega
theorem JXS.consume (h : JXS e pipe ml F) (sd : ∀ q, q < 2 → (e q).side = q) (hk : k < 2) (hj : j < 2) (hkj : k ≠ j) (st c : Int) :
    (((e k).consumeC st c).1 ≠ 0 ∧ JXS (upd e k ((e k).consumeC st c).2) pipe ml F ∧ cnt (upd e k ((e k).consumeC st c).2) F ≤ cnt e F + 2) ∨
    (((e k).consumeC st c).1 = 0 ∧ ∀ (i : Nat) (x : Ms), (ml (j + 2))[i]? = some x → st = 2 * (i : Int) + 1 + j → ∃ F', JXS (upd e k ((e k).consumeC st c).2) pipe (upd ml (j + 2) ((ml (j + 2)).set i { x with et := x.et + c.toNat })) F' ∧ cnt (upd e k ((e k).consumeC st c).2) F' ≤ cnt e F + 2) := by
  obtain ⟨ta, tb, hJ⟩ := h.at hk hj hkj
  rcases hJ.consume st c with ⟨h1, h2⟩ | ⟨h1, i', y, S, hy, hst, hc1, hc2, ho, hw, hX, hr, h4, hrm⟩
  · refine .inl ⟨h1, ?_, ?_⟩
    · rw [h2, upd_self_e]
      exact h
    · rw [h2, upd_self_e]
      omega
  · refine .inr ⟨h1, fun i x hx hsti => ⟨upd F k (F k ++ S), JXS.of hk hj hkj ⟨ta, tb, ?_⟩, ?_⟩⟩
    · have hii : i' = i := by rw [sd j hj] at hst; omega
      subst hii
      have hxe : etF (ml (j + 2)) i' = x.et := by unfold etF; rw [hx]; rfl
      rw [(upd_at e _ hkj).1, (upd_at e _ hkj).2, (upd_at F _ hkj).1, (upd_at F _ hkj).2, upd_other _ _ (show k ≠ j + 2 by omega), upd_other _ _ (show j ≠ j + 2 by omega), upd_other _ _ (show k + 2 ≠ j + 2 by omega), upd_same, gtL_set hx (m := { x with et := x.et + c.toNat }) rfl rfl, etF_set hx]
      rw [hxe] at hX
      exact hX
    · rw [cnt_at hk hj hkj, cnt_at hk hj hkj, (upd_at e _ hkj).1, (upd_at e _ hkj).2, (upd_at F _ hkj).1, (upd_at F _ hkj).2, Lk.pings_append]
      omega
theorem JXS.drain (h : JXS e pipe ml F) (hk : k < 2) (hj : j < 2) (hkj : k ≠ j) (c : Nat) : ∃ Q', JXS (upd e k (Lk.En.drain c (e k)).2) (upd pipe k (pipe k ++ (Lk.En.drain c (e k)).1)) ml (upd F k Q') ∧ Lk.pings Q' = Lk.pings (F k)
    ∧ Lk.pend (Lk.En.drain c (e k)).2 ≤ Lk.pend (e k) ∧ (Lk.En.drain c (e k)).2.row.length ≤ (e k).row.length ∧ ((e k).row.length ≤ c → (Lk.En.drain c (e k)).2.row = [])
    ∧ ((e k).row.length < c → (∀ f ∈ F j, f.k ≠ 4) → (∀ f ∈ F k, ¬ f.body) → (∀ (i : Nat) (y : Lk.Ot), (e j).oth[i]? = some y → y.held = 0) → 0 < Lk.pend (e k) → Lk.pend (Lk.En.drain c (e k)).2 < Lk.pend (e k))
    ∧ (Lk.En.drain c (e k)).1.length + 73 * (Lk.En.drain c (e k)).2.row.length + 73 * Lk.pend (Lk.En.drain c (e k)).2 ≤ 73 * (e k).row.length + 73 * Lk.pend (e k) := by
  obtain ⟨ta, tb, hJ⟩ := h.at hk hj hkj
  obtain ⟨Q', h1, h2, h3, h4, h5, h6, h7⟩ := Lk.JX.drain c hJ
  refine ⟨Q', JXS.of hk hj hkj ⟨ta, tb, ?_⟩, h2, h3, h4, h5, fun a1 a2 a3 a4 a5 => h6 a1 (hJ.may a2 a3 a4 a5), h7⟩
  rw [(upd_at e _ hkj).1, (upd_at e _ hkj).2, (upd_at F _ hkj).1, (upd_at F _ hkj).2, (upd_at pipe _ hkj).1, (upd_at pipe _ hkj).2]
  exact h1
theorem JXS.move (h : JXS e pipe ml F) (sd : ∀ q, q < 2 → (e q).side = q) (hk : k < 2) (hj : j < 2) (hkj : k ≠ j) {x y : Lk.Bs} (hxy : pipe k = x ++ y)
    (hml : ∀ i, i < 2 → hsL (ml' i) = hsL (ml i) ∧ bdF (ml' i) = bdF (ml i) ∧ etF (ml' (i + 2)) = etF (ml (i + 2))) (hG2 : gtL (ml' (j + 2)) = gtL (ml (j + 2))) (hG : Lk.hearL k (hsL (ml k)) (bdF (ml k)) (gtL (ml (k + 2))) ((e j).feed x).1 = some (gtL (ml' (k + 2)))) :
    ∃ S Q', JXS (upd e j ((e j).feed x).2) (upd pipe k y) ml' (upd (upd F k Q') j (F j ++ S)) ∧ ((e j).feed x).2.row.length = (e j).row.length + S.length ∧ S.length + Lk.pings Q' ≤ Lk.pings (F k) ∧ (∀ g ∈ S, g.k = 6) ∧ Lk.pend ((e j).feed x).2 = Lk.pend (e j) ∧ (y = [] → (e k).row = [] → Q' = []) := by
  obtain ⟨ta, tb, hJ⟩ := h.at hk hj hkj
  rw [hxy] at hJ
  obtain ⟨_, S, Q', ta', Ga', h2, h3, h4, h5, h6, h7, h8⟩ := hJ.move
  rw [sd k hk, hG] at h2
  have hGa : gtL (ml' (k + 2)) = Ga' := Option.some.inj h2
  obtain ⟨a1, a2, a3⟩ := hml k hk
  obtain ⟨b1, b2, b3⟩ := hml j hj
  refine ⟨S, Q', JXS.of hk hj hkj ⟨ta', tb, ?_⟩, h4, h5, h6, h7, h8⟩
  rw [(upd_at e _ (Ne.symm hkj)).1, (upd_at e _ (Ne.symm hkj)).2, (upd_at pipe _ hkj).1, (upd_at pipe _ hkj).2, (upd_at (upd F k Q') _ (Ne.symm hkj)).1, (upd_at (upd F k Q') _ (Ne.symm hkj)).2, upd_same, a1, a2, a3, b1, b2, b3, hGa, hG2]
  exact h3
theorem pings_six {S : List Lk.Fr} (h : ∀ g ∈ S, g.k = 6) : Lk.pings S = 0 := Lk.pings_none (fun f hf => by rw [h f hf]; omega)
theorem pings_four {S : List Lk.Fr} (h : ∀ g ∈ S, g.k = 4) : Lk.pings S = 0 := Lk.pings_none (fun f hf => by rw [h f hf]; omega)
/-- A move within a script. -/
theorem JXS.moveC (h : JXS e pipe ml F) (sd : ∀ q, q < 2 → (e q).side = q) (hk : k < 2) (hj : j < 2) (hkj : k ≠ j) {x y : Lk.Bs} (hxy : pipe k = x ++ y)
    (hml : ∀ i, i < 2 → hsL (ml' i) = hsL (ml i) ∧ bdF (ml' i) = bdF (ml i) ∧ etF (ml' (i + 2)) = etF (ml (i + 2))) (hG2 : gtL (ml' (j + 2)) = gtL (ml (j + 2))) (hG : Lk.hearL k (hsL (ml k)) (bdF (ml k)) (gtL (ml (k + 2))) ((e j).feed x).1 = some (gtL (ml' (k + 2)))) :
    ∃ F', JXS (upd e j ((e j).feed x).2) (upd pipe k y) ml' F' ∧ cnt (upd e j ((e j).feed x).2) F' ≤ cnt e F := by
  obtain ⟨S, Q', h1, h2, h3, h4, _, _⟩ := h.move sd hk hj hkj hxy hml hG2 hG
  refine ⟨_, h1, ?_⟩
  rw [cnt_at hk hj hkj, cnt_at hk hj hkj, (upd_at e _ (Ne.symm hkj)).1, (upd_at e _ (Ne.symm hkj)).2, (upd_at (upd F k Q') _ (Ne.symm hkj)).1, (upd_at (upd F k Q') _ (Ne.symm hkj)).2, upd_same, Lk.pings_append, pings_six h4]
  omega
theorem JXS.drainC (h : JXS e pipe ml F) (hk : k < 2) (c : Nat) : ∃ F', JXS (upd e k (Lk.En.drain c (e k)).2) (upd pipe k (pipe k ++ (Lk.En.drain c (e k)).1)) ml F' ∧ cnt (upd e k (Lk.En.drain c (e k)).2) F' ≤ cnt e F := by
  obtain ⟨j, hj, hkj⟩ := other_of hk
  obtain ⟨Q', h1, h2, _, h4, _⟩ := h.drain hk hj hkj c
  refine ⟨_, h1, ?_⟩
  rw [cnt_at hk hj hkj, cnt_at hk hj hkj, (upd_at e _ hkj).1, (upd_at e _ hkj).2, (upd_at F _ hkj).1, (upd_at F _ hkj).2]
  omega
end
end Go.Proofs.YtbkpdapagfjmmaaGreatDoor
