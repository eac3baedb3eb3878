import Derived.Test.YtbkpdapagfjmmaaGreatDoorMSpec12
/-
  Plain mathematics of the document: two ends that belong together: bytes come; what was told is what was submitted. Imports nothing of the program.
-/
namespace Go.Proofs.YtbkpdapagfjmmaaGreatDoor.Lk

/-- Whole frames that are cut anywhere. -/
theorem all_cut : ∀ (G : List Fr) (x y : Bs), (∀ f ∈ G, Good f.k f.st f.d) → packAll G = x ++ y → ∃ G1 G2 r, G = G1 ++ G2 ∧ Lk.all x = (G1, 0, r) ∧ packAll G2 = r ++ y
  | [], x, y, _, h => by
    have : x = [] ∧ y = [] := by simpa [packAll] using h
    obtain ⟨rfl, rfl⟩ := this
    exact ⟨[], [], [], rfl, all_nil, rfl⟩
  | f :: G, x, y, hg, h => by
    have hf := hg f (by simp)
    have e : packAll (f :: G) = packed f.k f.st f.d ++ packAll G := by simp [packAll]
    rw [e] at h
    by_cases hl : x.length < (packed f.k f.st f.d).length
    · have hx : x = (packed f.k f.st f.d).take x.length := by
        have := congrArg (fun l => l.take x.length) h
        simp only [List.take_left, List.take_append_of_le_length (Nat.le_of_lt hl)] at this
        exact this.symm
      refine ⟨[], f :: G, x, rfl, ?_, by rw [e]; exact h⟩
      have hm := nx_part hf x.length hl
      rw [← hx] at hm
      exact all_more hm
    · obtain ⟨x', hx⟩ : ∃ x', x = packed f.k f.st f.d ++ x' := by
        refine ⟨x.drop (packed f.k f.st f.d).length, ?_⟩
        have h1 := congrArg (fun l => l.take (packed f.k f.st f.d).length) h
        simp only [List.take_left] at h1
        rw [List.take_append_of_le_length (by omega)] at h1
        have h2 := List.take_append_drop (packed f.k f.st f.d).length x
        rw [← h1] at h2
        exact h2.symm
      subst hx
      rw [List.append_assoc] at h
      have h' := List.append_cancel_left h
      obtain ⟨G1, G2, r, e1, e2, e3⟩ := all_cut G x' y (fun g hg' => hg g (by simp [hg'])) h'
      refine ⟨f :: G1, G2, r, by rw [e1]; rfl, ?_, e3⟩
      rw [all_packed hf, e2]

/-- What a listener has of the other end's streams: what was told of each, and is it told that it has ended. -/
structure Lis (b : En) (told : Nat → Bs) (G : List (Bs × Bool)) : Prop where
  len : G.length ≤ b.oth.length
  bye : b.byeS = false → G.length = b.oth.length
  told : ∀ (i : Nat) (g : Bs × Bool), G[i]? = some g → g.1 = told i
  opn : ∀ (i : Nat) (p : Ot), b.oth[i]? = some p → p.opn = true → ∃ t, G[i]? = some (t, false)

def decHd : DecidableEq Hd := fun x y => decidable_of_iff (x.n = y.n ∧ x.v = y.v) (by cases x; cases y; simp)
/-- The listener hears an event: none: it is not as it must be. -/
def hear1 (s : Nat) (H : List (List Hd)) (bd : Nat → Bs) (G : List (Bs × Bool)) (v : Ev) : Option (List (Bs × Bool)) :=
  haveI : DecidableEq Hd := decHd
  if v.k = 1 then (if v.st = 2 * G.length + 1 + s ∧ H[G.length]? = some v.hs then some (G ++ [([], false)]) else none)
  else if v.k = 2 ∨ v.k = 3 then
    (if v.st % 2 = (1 + s) % 2 ∧ 1 + s ≤ v.st then
      match G[(v.st - 1 - s) / 2]? with
      | none => none
      | some g => if g.2 then none
        else if v.k = 3 then (if g.1 = bd ((v.st - 1 - s) / 2) then some (G.set ((v.st - 1 - s) / 2) (g.1, true)) else none)
        else (if g.1 ++ v.t <+: bd ((v.st - 1 - s) / 2) then some (G.set ((v.st - 1 - s) / 2) (g.1 ++ v.t, false)) else none)
    else none)
  else some G
def hearL (s : Nat) (H : List (List Hd)) (bd : Nat → Bs) : List (Bs × Bool) → List Ev → Option (List (Bs × Bool))
  | G, [] => some G
  | G, v :: l => match hear1 s H bd G v with
    | none => none
    | some G' => hearL s H bd G' l
theorem hearL_append (s : Nat) (H : List (List Hd)) (bd : Nat → Bs) : ∀ (x y : List Ev) (G : List (Bs × Bool)), hearL s H bd G (x ++ y) = (hearL s H bd G x).bind fun G' => hearL s H bd G' y
  | [], y, G => rfl
  | v :: x, y, G => by
    rw [List.cons_append, hearL, hearL]
    cases hear1 s H bd G v with
    | none => rfl
    | some G' => exact hearL_append s H bd x y G'
theorem hear1_other {s : Nat} {H : List (List Hd)} {bd : Nat → Bs} {G : List (Bs × Bool)} {v : Ev} (h : v.k ≠ 1 ∧ v.k ≠ 2 ∧ v.k ≠ 3) : hear1 s H bd G v = some G := by
  unfold hear1
  rw [if_neg h.1, if_neg (by omega)]
theorem hearL_other {s : Nat} {H : List (List Hd)} {bd : Nat → Bs} : ∀ {l : List Ev} {G : List (Bs × Bool)}, (∀ v ∈ l, v.k ≠ 1 ∧ v.k ≠ 2 ∧ v.k ≠ 3) → hearL s H bd G l = some G
  | [], G, _ => rfl
  | v :: l, G, h => by
    rw [hearL, hear1_other (h v (by simp))]
    exact hearL_other (fun w hw => h w (by simp [hw]))

theorem hear1_len {s : Nat} {H : List (List Hd)} {bd : Nat → Bs} {G G' : List (Bs × Bool)} {v : Ev} (h : hear1 s H bd G v = some G') : G.length ≤ G'.length := by
  unfold hear1 at h
  split at h
  · split at h
    · cases h; simp
    · cases h
  · split at h
    · split at h
      · split at h
        · cases h
        · split at h
          · cases h
          · split at h
            · split at h
              · cases h; simp
              · cases h
            · split at h
              · cases h; simp
              · cases h
      · cases h
    · cases h; exact Nat.le_refl _
theorem hearL_len {s : Nat} {H : List (List Hd)} {bd : Nat → Bs} : ∀ {l : List Ev} {G G' : List (Bs × Bool)}, hearL s H bd G l = some G' → G.length ≤ G'.length
  | [], G, G', h => by rw [hearL] at h; cases h; exact Nat.le_refl _
  | v :: l, G, G', h => by
    rw [hearL] at h
    cases hx : hear1 s H bd G v with
    | none => rw [hx] at h; cases h
    | some X =>
      rw [hx] at h
      have h1 := hear1_len hx
      have h2 := hearL_len (l := l) h
      omega

/-- What the listener at b has consumed of what was told. -/
structure Eats (b : En) (told : Nat → Bs) (G : List (Bs × Bool)) (eaten : Nat → Nat) : Prop where
  le : ∀ (i : Nat) (p : Ot), b.oth[i]? = some p → eaten i + p.held ≤ (told i).length
  has : ∀ (i : Nat) (p : Ot), b.oth[i]? = some p → 0 < p.held → i < G.length
  new : ∀ i, b.oth.length ≤ i → eaten i = 0

section
variable {a b b' : En} {Q R S : List Fr} {Ha Hb : List (List Hd)} {ba ta ta' bb tb : Nat → Bs}

theorem Heard.hear {f : Fr} {evs : List Ev} (hh : Heard b b' f evs Ha ba ta ta') (hw : Wf b) (hsd : a.side + b.side = 1) {G : List (Bs × Bool)} (hl : Lis b ta G) : ∃ G', hearL a.side Ha ba G evs = some G' ∧ Lis b' ta' G' := by
  by_cases k0 : f.k = 0
  · have hnb : ¬ f.body := fun x => by rcases x with x | x <;> omega
    obtain ⟨hs, x, hH, hst, ho, hx, ht0, he⟩ := hh.head k0
    have ht := hh.same hnb
    subst ht
    cases hb : b.byeS with
    | true =>
      rw [hb] at he
      simp only [if_true] at he
      subst he
      refine ⟨G, rfl, ⟨by rw [ho]; have := hl.len; simp; omega, (fun e => by rw [hh.bye, hb] at e; cases e), hl.told, fun i p hp hop => ?_⟩⟩
      rw [ho, List.getElem?_append] at hp
      split at hp
      · exact hl.opn i p hp hop
      · rename_i hi
        have hi0 : i = b.oth.length := by
          have := (List.getElem?_eq_some_iff.1 hp).1
          simp at this
          omega
        subst hi0
        simp at hp
        subst hp
        have := hx hop
        rw [hb] at this
        cases this
    | false =>
      rw [hb] at he
      simp only [Bool.false_eq_true, if_false] at he
      subst he
      have hlen := hl.bye hb
      refine ⟨G ++ [([], false)], ?_, ⟨by rw [ho]; simp; omega, fun _ => by rw [ho]; simp; omega, fun i g hg => ?_, fun i p hp hop => ?_⟩⟩
      · rw [hearL]
        unfold hear1
        rw [if_pos rfl]
        simp only
        rw [if_pos ⟨by have := hw.side; omega, by rw [hlen]; exact hH⟩]
        rfl
      · rw [List.getElem?_append] at hg
        split at hg
        · exact hl.told i g hg
        · rename_i hi
          have hi0 : i = G.length := by
            have := (List.getElem?_eq_some_iff.1 hg).1
            simp at this
            omega
          subst hi0
          simp at hg
          subst hg
          rw [hlen]
          exact ht0.symm
      · rw [ho, List.getElem?_append] at hp
        rw [List.getElem?_append]
        split at hp
        · rename_i hi
          rw [if_pos (by omega)]
          exact hl.opn i p hp hop
        · rename_i hi
          have hi0 : i = b.oth.length := by
            have := (List.getElem?_eq_some_iff.1 hp).1
            simp at this
            omega
          subst hi0
          rw [if_neg (by omega)]
          exact ⟨[], by simp [hlen]⟩
  · by_cases kb : f.body
    · obtain ⟨i, p, x, hp, hst, ho, hx, he⟩ := hh.body kb
      have hid := (hw.oth i p hp).id
      have hix : (f.st - 1 - a.side) / 2 = i := by have := hw.side; omega
      cases hop : p.opn with
      | false =>
        rw [hop] at he
        simp only [Bool.false_eq_true, if_false] at he
        obtain ⟨rfl, rfl⟩ := he
        refine ⟨G, rfl, ⟨by rw [ho]; simpa using hl.len, fun e => by rw [ho]; simpa using hl.bye (by rw [← hh.bye]; exact e), hl.told, fun j y hy hyo => ?_⟩⟩
        rw [ho] at hy
        rcases set_get hy with ⟨rfl, rfl, _⟩ | ⟨_, hy⟩
        · have := (hx hyo).1
          rw [hop] at this
          cases this
        · exact hl.opn j y hy hyo
      | true =>
        rw [hop] at he
        simp only [if_true] at he
        obtain ⟨rfl, hpre, hful, rfl⟩ := he
        obtain ⟨t, ht⟩ := hl.opn i p hp hop
        have htt := hl.told i _ ht
        simp only at htt
        subst htt
        have hlt := lt_of_get ht
        rw [updN_same] at hpre hful
        have lis : ∀ e : Bool, (x.opn = true → e = false) → Lis b' (updN ta i (ta i ++ f.d)) (G.set i (ta i ++ f.d, e)) := fun e hxe => by
          refine ⟨by rw [ho]; simpa using hl.len, fun h => by rw [ho]; simpa using hl.bye (by rw [← hh.bye]; exact h), fun j g hg => ?_, fun j y hy hyo => ?_⟩
          · rcases set_get hg with ⟨rfl, rfl, _⟩ | ⟨hj, hg⟩
            · rw [updN_same]
            · rw [updN_other _ _ hj]
              exact hl.told j g hg
          · rw [ho] at hy
            rcases set_get hy with ⟨rfl, rfl, _⟩ | ⟨hj, hy⟩
            · exact ⟨_, by rw [List.getElem?_set_self hlt, hxe hyo]⟩
            · obtain ⟨t, ht'⟩ := hl.opn j y hy hyo
              exact ⟨t, by rw [List.getElem?_set_ne (fun e => hj e.symm)]; exact ht'⟩
        have par : f.st % 2 = (1 + a.side) % 2 ∧ 1 + a.side ≤ f.st := by have := hw.side; omega
        have two : ∀ (t : Bs) (X : List (Bs × Bool)), X[i]? = some (t, false) → t ++ f.d <+: ba i → hear1 a.side Ha ba X ⟨2, f.st, 0, [], f.d⟩ = some (X.set i (t ++ f.d, false)) := fun t X hX hp' => by
          unfold hear1
          rw [if_neg (by simp), if_pos (by simp), if_pos par]
          simp only [hix, hX]
          rw [if_neg (by simp), if_neg (by simp), if_pos hp']
        have three : ∀ (t : Bs) (X : List (Bs × Bool)), X[i]? = some (t, false) → t = ba i → hear1 a.side Ha ba X ⟨3, f.st, 0, [], []⟩ = some (X.set i (t, true)) := fun t X hX hp' => by
          unfold hear1
          rw [if_neg (by simp), if_pos (by simp), if_pos par]
          simp only [hix, hX]
          rw [if_neg (by simp), if_pos trivial, if_pos hp']
        have dnil : ¬ 0 < f.d.length → f.d = [] := fun h => List.eq_nil_of_length_eq_zero (by omega)
        by_cases k2 : f.k = 2
        · refine ⟨G.set i (ta i ++ f.d, true), ?_, lis true (fun h => absurd k2 (hx h).2)⟩
          rw [if_pos k2]
          by_cases h0 : 0 < f.d.length
          · rw [if_pos h0]
            simp only [List.cons_append, List.nil_append]
            rw [hearL, two (ta i) G ht hpre]
            simp only
            rw [hearL, three (ta i ++ f.d) _ (List.getElem?_set_self hlt) (hful k2)]
            simp [hearL]
          · rw [if_neg h0]
            have hd := dnil h0
            rw [hd] at hful ⊢
            simp only [List.append_nil, List.nil_append] at hful ⊢
            rw [hearL, three (ta i) G ht (hful k2)]
            rfl
        · refine ⟨G.set i (ta i ++ f.d, false), ?_, lis false (fun _ => rfl)⟩
          rw [if_neg k2]
          by_cases h0 : 0 < f.d.length
          · rw [if_pos h0]
            simp only [List.append_nil]
            rw [hearL, two (ta i) G ht hpre]
            rfl
          · rw [if_neg h0]
            have hd := dnil h0
            rw [hd]
            simp only [List.append_nil]
            rw [hearL]
            congr 1
            apply List.ext_getElem?
            intro j
            rw [List.getElem?_set]
            split
            · rename_i e
              subst e
              rw [ht]
            · rfl
    · obtain ⟨hv, hlen, hop⟩ := hh.rest k0 kb
      have ht := hh.same kb
      subst ht
      refine ⟨G, hearL_other hv, ⟨by rw [hlen]; exact hl.len, fun e => by rw [hlen]; exact hl.bye (by rw [← hh.bye]; exact e), hl.told, fun i p' hp ho => ?_⟩⟩
      obtain ⟨p, hp2, ho2⟩ := hop i p' hp ho
      exact hl.opn i p hp2 ho2

theorem Heard.grows {f : Fr} {evs : List Ev} (hh : Heard b b' f evs Ha ba ta ta') : b.oth.length ≤ b'.oth.length := by
  by_cases k0 : f.k = 0
  · obtain ⟨hs, x, _, _, ho, _⟩ := hh.head k0
    rw [ho]
    simp
  · by_cases kb : f.body
    · obtain ⟨i, p, x, _, _, ho, _⟩ := hh.body kb
      rw [ho]
      simp
    · exact Nat.le_of_eq (hh.rest k0 kb).2.1.symm
theorem Heard.eats {f : Fr} {evs : List Ev} (hh : Heard b b' f evs Ha ba ta ta') {G G' : List (Bs × Bool)} {eaten : Nat → Nat} (hl : Lis b ta G) (hlen : G.length ≤ G'.length) (he : Eats b ta G eaten) : Eats b' ta' G' eaten := by
  refine ⟨fun i p hp => ?_, fun i p hp h0 => ?_, fun i hi => he.new i (Nat.le_trans hh.grows hi)⟩
  · have h1 := (hh.held i p hp).1
    have h2 : eaten i + heldAt b i ≤ (ta i).length := by
      unfold heldAt
      cases ho : b.oth[i]? with
      | none =>
        have := he.new i (by rcases Nat.lt_or_ge i b.oth.length with x | x; (rw [List.getElem?_eq_getElem x] at ho; cases ho); exact x)
        simp only
        omega
      | some q => exact he.le i q ho
    omega
  · obtain ⟨q, hq, h1⟩ := (hh.held i p hp).2 h0
    rcases h1 with h1 | h1
    · exact Nat.lt_of_lt_of_le (he.has i q hq h1) hlen
    · obtain ⟨t, ht⟩ := hl.opn i q hq h1
      exact Nat.lt_of_lt_of_le (lt_of_get ht) hlen
end
end Go.Proofs.YtbkpdapagfjmmaaGreatDoor.Lk

/-
  Plain mathematics of the document: two ends that belong together, and the bytes between them. Imports nothing of the program.
-/
namespace Go.Proofs.YtbkpdapagfjmmaaGreatDoor.Lk

/-- The bytes p on their way from a to b are the frames Q, with what has come of the first one and with what waits in the row. -/
def Way (a : En) (p : Bs) (b : En) (Q : List Fr) : Prop := ∃ G W : List Fr, b.rest ++ p = packAll G ∧ a.row = W.map Fr.pack ∧ Q = G ++ W

theorem En.eta_down {e : En} (h : e.down = 0) : ({ e with down := 0 } : En) = e := by
  rw [← h]

section
variable {a b : En} {Q R : List Fr} {Ha Hb : List (List Hd)} {ba ta bb tb : Nat → Bs}

/-- What the listener at b hears goes through, and it has then what was told. -/
def Hears (s : Nat) (H : List (List Hd)) (bd : Nat → Bs) (b b' : En) (told told' : Nat → Bs) (evs : List Ev) : Prop :=
  ∀ G, Lis b told G → ∃ G', hearL s H bd G evs = some G' ∧ Lis b' told' G' ∧ ∀ eaten, Eats b told G eaten → Eats b' told' G' eaten

theorem Both.frames : ∀ (G : List Fr) {b : En} {R : List Fr} {ta : Nat → Bs}, Both a b (G ++ Q) R Ha Hb ba ta bb tb →
    ∃ S ta', Sent b (b.frames G).2 S ∧ (b.frames G).2.rest = b.rest ∧ Both a (b.frames G).2 Q (R ++ S) Ha Hb ba ta' bb tb ∧ Hears a.side Ha ba b (b.frames G).2 ta ta' (b.frames G).1
  | [], b, R, ta, h => ⟨[], ta, Sent.refl b, rfl, by simpa [En.frames] using h, fun G hl => ⟨G, rfl, hl, fun _ h => h⟩⟩
  | f :: G, b, R, ta, h => by
    obtain ⟨h0, S, ta', hS, hB, hH⟩ := h.recv
    have hd : (b.frame f).2.2.down = 0 := hB.db
    have hr : (b.frame f).2.2.rest = b.rest := by
      have := b.frame_at f b.rest
      rw [b.at_self] at this
      rw [this]
      rfl
    have e : b.frames (f :: G) = ((b.frame f).1 ++ ((b.frame f).2.2.frames G).1, ((b.frame f).2.2.frames G).2) := by
      rw [En.frames, if_neg (by rw [h.db]; simp), h0, En.eta_down hd]
    obtain ⟨S2, ta2, hS2, hr2, hB2, hH2⟩ := Both.frames G hB
    rw [e]
    refine ⟨S ++ S2, ta2, ?_, hr2.trans hr, by rw [← List.append_assoc]; exact hB2, fun X hX => ?_⟩
    · unfold Sent at hS hS2 ⊢
      rw [hS2, hS]
      simp
    · obtain ⟨X1, e1, l1⟩ := hH.hear h.wb h.ab.sides hX
      obtain ⟨X2, e2, l2, t2⟩ := hH2 X1 l1
      exact ⟨X2, by rw [hearL_append, e1]; exact e2, l2, fun eaten he => t2 eaten (hH.eats hX (hearL_len e1) he)⟩

theorem Both.at (h : Both a b Q R Ha Hb ba ta bb tb) {r : Bs} (hr : Lk.all r = ([], 0, r)) : Both a (b.at r) Q R Ha Hb ba ta bb tb :=
  ⟨h.wa, h.wb.at hr, h.da, h.db, h.gq, h.gr, h.ab.same rfl rfl rfl rfl rfl rfl rfl rfl rfl rfl, h.ba.same rfl rfl rfl rfl rfl rfl rfl rfl rfl rfl⟩

theorem packAll_append (x y : List Fr) : packAll (x ++ y) = packAll x ++ packAll y := by simp [packAll]

/-- Bytes come from a to b. -/
theorem Both.feed (h : Both a b Q R Ha Hb ba ta bb tb) {x y : Bs} (hy : Way a (x ++ y) b Q) :
    ∃ S Q' ta', (b.feed x).2.down = 0 ∧ Sent b (b.feed x).2 S ∧ Both a (b.feed x).2 Q' (R ++ S) Ha Hb ba ta' bb tb ∧ Way a y (b.feed x).2 Q' ∧ Hears a.side Ha ba b (b.feed x).2 ta ta' (b.feed x).1 := by
  obtain ⟨G, W, hp, hw, rfl⟩ := hy
  obtain ⟨G1, G2, r, rfl, hall, hr⟩ := all_cut G (b.rest ++ x) y (fun f hf => h.gq f (by simp [hf])) (by rw [List.append_assoc]; exact hp.symm)
  rw [List.append_assoc] at h
  obtain ⟨S, ta', hS, hrest, hB, hH⟩ := Both.frames G1 h
  have hrr : Lk.all r = ([], 0, r) := by
    have := all_rest (b.rest ++ x)
    rw [hall] at this
    exact this
  have e : b.feed x = ((b.frames G1).1, (b.frames G1).2.at r) := by
    have hd : (b.frames G1).2.down = 0 := hB.db
    rw [b.feed_eq x h.db _ hall]
    simp only
    rw [if_pos hd]
    have : ({ (b.frames G1).2.at r with down := 0 } : En) = (b.frames G1).2.at r := En.eta_down hd
    rw [this]
    unfold En.falls
    rw [if_neg (fun z => z.1 hd)]
  rw [e]
  refine ⟨S, G2 ++ W, ta', hB.db, hS, hB.at hrr, ⟨G2, W, hr.symm, hw, rfl⟩, fun X hX => ?_⟩
  obtain ⟨X', e1, l1, t1⟩ := hH X hX
  exact ⟨X', e1, ⟨l1.len, l1.bye, l1.told, l1.opn⟩, fun eaten he => ⟨(t1 eaten he).le, (t1 eaten he).has, (t1 eaten he).new⟩⟩

theorem Way.sent {p : Bs} {b' : En} {S : List Fr} (h : Way b p a R) (hs : Sent b b' S) : Way b' p a (R ++ S) := by
  obtain ⟨G, W, h1, h2, rfl⟩ := h
  refine ⟨G, W ++ S, h1, ?_, by simp⟩
  unfold Sent at hs
  rw [hs, h2]
  simp

theorem Both.drain1 (h : Both a b Q R Ha Hb ba ta bb tb) {p : Bs} (hy : Way a p b Q) {s : Bs} {a' : En} (hd : a.drain1 = some (s, a')) : ∃ Q', Both a' b Q' R Ha Hb ba ta bb tb ∧ Way a' (p ++ s) b Q' ∧ a'.rest = a.rest := by
  have hw := h.wa.drain1 hd
  obtain ⟨G, W, h1, h2, rfl⟩ := hy
  unfold En.drain1 at hd
  cases hr : a.row with
  | cons z r =>
    rw [hr] at hd
    cases hd
    rw [hr] at h2
    cases W with
    | nil => cases h2
    | cons f W =>
      simp at h2
      obtain ⟨rfl, rfl⟩ := h2
      refine ⟨G ++ f :: W, ⟨hw.1, h.wb, h.da, h.db, h.gq, h.gr, h.ab.same rfl rfl rfl rfl rfl rfl rfl rfl rfl rfl, h.ba.same rfl rfl rfl rfl rfl rfl rfl rfl rfl rfl⟩, ⟨G ++ [f], W, ?_, rfl, by simp⟩, rfl⟩
      rw [packAll_append, ← h1]
      simp [packAll, Fr.pack]
  | nil =>
    rw [hr] at hd
    simp only at hd
    have hW : W = [] := by
      rw [hr] at h2
      cases W with
      | nil => rfl
      | cons f W => cases h2
    subst hW
    split at hd
    · cases hd
    · cases hn : a.next with
      | none => rw [hn] at hd; cases hd
      | some i =>
        obtain ⟨o, ho, hm⟩ := next_may hn
        rw [hn] at hd
        simp only at hd
        rw [ho] at hd
        simp only at hd
        cases hd
        have B := h.sendBody ho hm
        refine ⟨G ++ [] ++ [a.bodyFr o], B, ⟨G ++ [a.bodyFr o], [], ?_, hr, by simp⟩, rfl⟩
        rw [packAll_append, ← h1]
        simp [packAll, En.bodyFr]

theorem Both.drain : ∀ (n : Nat) {a : En} {Q : List Fr} {p : Bs}, Both a b Q R Ha Hb ba ta bb tb → Way a p b Q → ∃ Q', Both (En.drain n a).2 b Q' R Ha Hb ba ta bb tb ∧ Way (En.drain n a).2 (p ++ (En.drain n a).1) b Q' ∧ (En.drain n a).2.rest = a.rest
  | 0, a, Q, p, h, hy => ⟨Q, h, by simpa [En.drain] using hy, rfl⟩
  | n + 1, a, Q, p, h, hy => by
    rw [En.drain]
    cases hd : a.drain1 with
    | none => exact ⟨Q, h, by simpa using hy, rfl⟩
    | some q =>
      obtain ⟨s, a'⟩ := q
      obtain ⟨Q1, h1, y1, r1⟩ := h.drain1 hy hd
      obtain ⟨Q2, h2, y2, r2⟩ := Both.drain n h1 y1
      exact ⟨Q2, h2, by simpa using y2, r2.trans r1⟩
end
end Go.Proofs.YtbkpdapagfjmmaaGreatDoor.Lk

/-
  Plain mathematics of the document: two ends that belong together: their calls, from the start. Imports nothing of the program.
-/
namespace Go.Proofs.YtbkpdapagfjmmaaGreatDoor.Lk

theorem Dir.start (s t win : Nat) (h : s + t = 1) : Dir (En.new s win) (En.new t win) [] [] [] (fun _ => []) (fun _ => []) := by
  refine ⟨rfl, rfl, ⟨rfl, rfl⟩, ?_, Nat.le_refl _, ?_, ?_, ?_, ?_, ?_, ?_, ?_, ?_, h, rfl⟩ <;> simp [En.new]
theorem Both.start (s t win : Nat) (h : s + t = 1) (h1 : 1 ≤ win) (h2 : win ≤ 200) : Both (En.new s win) (En.new t win) [] [] [] [] (fun _ => []) (fun _ => []) (fun _ => []) (fun _ => []) :=
  ⟨Wf.new (by omega) h1 h2, Wf.new (by omega) h1 h2, rfl, rfl, by simp, by simp, Dir.start s t win h, Dir.start t s win (by omega)⟩
theorem Way.start (s t win : Nat) : Way (En.new s win) [] (En.new t win) [] := ⟨[], [], rfl, rfl, rfl⟩
theorem Lis.start (s win : Nat) : Lis (En.new s win) (fun _ => []) [] := ⟨by simp, fun _ => rfl, by simp, by simp [En.new]⟩

section
variable {a b : En} {Q R : List Fr} {Ha Hb : List (List Hd)} {ba ta bb tb : Nat → Bs}

theorem Both.pingC (h : Both a b Q R Ha Hb ba ta bb tb) (t : Bs) : ∃ S, Sent a (a.pingC t).2 S ∧ Both (a.pingC t).2 b (Q ++ S) R Ha Hb ba ta bb tb ∧ ((a.pingC t).1 = 0 ∨ t.length ≠ 8) := by
  unfold En.pingC
  rw [if_neg (by rw [h.da]; simp)]
  split
  · rename_i h8
    exact ⟨[], Sent.refl a, by simpa using h, .inr h8⟩
  · rename_i h8
    exact ⟨[⟨5, 0, t⟩], (Sent.refl a).send 5 0 t, h.plain (by omega) (good_eight 5 t (by omega) (by omega)), .inl rfl⟩
theorem Both.byeC' (h : Both a b Q R Ha Hb ba ta bb tb) : ∃ S, Sent a a.byeC'.2 S ∧ Both a.byeC'.2 b (Q ++ S) R Ha Hb ba ta bb tb := by
  unfold En.byeC'
  rw [if_neg (by rw [h.da]; simp)]
  split
  · exact ⟨[], Sent.refl a, by simpa using h⟩
  · exact ⟨[⟨7, 0, wire a.lastOth⟩], (Sent.refl a).send 7 0 _, h.bye⟩

/-- What is submitted: it is refused, and nothing has changed; or it has the next stream. -/
theorem Both.submitC (h : Both a b Q R Ha Hb ba ta bb tb) (l : List Hd) (body : Bs) :
    ((a.submitC l body).1.2.1 ≠ 0 ∧ (a.submitC l body).2 = a) ∨
    ((a.submitC l body).1 = (2 * a.own.length + 1 + a.side, 0, 0) ∧ (a.submitC l body).2.own.length = a.own.length + 1 ∧ (a.submitC l body).2.rest = a.rest ∧ (a.submitC l body).2.oth = a.oth ∧ (a.submitC l body).2.byeS = a.byeS ∧
      ∃ S, Sent a (a.submitC l body).2 S ∧ Both (a.submitC l body).2 b (Q ++ S) R (Ha ++ [l]) Hb (updN ba a.own.length body) (updN ta a.own.length []) bb tb) := by
  unfold En.submitC
  rw [if_neg (by rw [h.da]; simp)]
  split
  · exact .inl ⟨by simp, rfl⟩
  · split
    · rename_i h1 h2
      exact .inl ⟨h2, rfl⟩
    · split
      · exact .inl ⟨by simp, rfl⟩
      · split
        · exact .inl ⟨by simp, rfl⟩
        · rename_i h1 h2 h3 h4
          refine .inr ⟨rfl, by simp [En.send], rfl, rfl, rfl, [⟨0, a.nextId, (squeeze 100 a.out l).1⟩], ?_, h.submit l body (by omega) (by omega) (by omega) (by omega)⟩
          simp [Sent, En.send, Fr.pack]
end

theorem Eats.start (s win : Nat) : Eats (En.new s win) (fun _ => []) [] (fun _ => 0) := ⟨by simp [En.new], by simp [En.new], fun _ _ => rfl⟩

theorem consumeC_cases (a : En) (st n : Int) : ((a.consumeC st n).1 ≠ 0 ∧ (a.consumeC st n).2 = a) ∨
    ((a.consumeC st n).1 = 0 ∧ ∃ (i : Nat) (p : Ot), a.oth[i]? = some p ∧ (p.id : Int) = st ∧ 1 ≤ n ∧ n ≤ p.held ∧ (a.consumeC st n).2.oth = a.oth.set i (p.eat n.toNat) ∧ (a.consumeC st n).2.byeS = a.byeS ∧ (a.consumeC st n).2.rest = a.rest) := by
  unfold En.consumeC
  split
  · exact .inl ⟨by simp, rfl⟩
  · split
    · exact .inl ⟨by simp, rfl⟩
    · cases hx : othIx a.oth st with
      | none => exact .inl ⟨by simp, rfl⟩
      | some i =>
        obtain ⟨p, hp, hid⟩ := othIx_some hx
        simp only
        rw [hp]
        simp only
        split
        · exact .inl ⟨by simp, rfl⟩
        · refine .inr ⟨rfl, i, p, hp, hid, by omega, by omega, ?_⟩
          split <;> exact ⟨rfl, rfl, rfl⟩

theorem Lis.eat {a : En} {told : Nat → Bs} {G : List (Bs × Bool)} (h : Lis a told G) {a' : En} {i n : Nat} {p : Ot} (hp : a.oth[i]? = some p) (ho : a'.oth = a.oth.set i (p.eat n)) (hb : a'.byeS = a.byeS) : Lis a' told G := by
  refine ⟨by rw [ho]; simpa using h.len, fun e => by rw [ho]; simpa using h.bye (by rw [← hb]; exact e), h.told, fun j y hy hyo => ?_⟩
  rw [ho] at hy
  rcases set_get hy with ⟨rfl, rfl, _⟩ | ⟨_, hy⟩
  · exact h.opn j p hp hyo
  · exact h.opn j y hy hyo
theorem Eats.eat {a : En} {told : Nat → Bs} {G : List (Bs × Bool)} {eaten : Nat → Nat} (h : Eats a told G eaten) {a' : En} {i n : Nat} {p : Ot} (hp : a.oth[i]? = some p) (ho : a'.oth = a.oth.set i (p.eat n)) (hn : n ≤ p.held) (h1 : 1 ≤ n) :
    i < G.length ∧ eaten i + n ≤ (told i).length ∧ Eats a' told G (fun j => if j = i then eaten i + n else eaten j) := by
  have h2 := h.le i p hp
  refine ⟨h.has i p hp (by omega), by omega, ⟨fun j y hy => ?_, fun j y hy h0 => ?_, fun j hj => ?_⟩⟩
  · rw [ho] at hy
    rcases set_get hy with ⟨rfl, rfl, _⟩ | ⟨hj, hy⟩
    · rw [if_pos rfl]
      unfold Ot.eat
      simp only
      omega
    · rw [if_neg hj]
      exact h.le j y hy
  · rw [ho] at hy
    rcases set_get hy with ⟨rfl, rfl, _⟩ | ⟨hj, hy⟩
    · exact h.has j p hp (by omega)
    · exact h.has j y hy h0
  · rw [ho] at hj
    simp at hj
    have := lt_of_get hp
    rw [if_neg (by omega)]
    exact h.new j hj
/-- What leaves the streams of the other end as they are. -/
theorem Lis.same {a a' : En} {told : Nat → Bs} {G : List (Bs × Bool)} (h : Lis a told G) (ho : a'.oth = a.oth) (hb : a'.byeS = false → a.byeS = false) : Lis a' told G :=
  ⟨by rw [ho]; exact h.len, fun e => by rw [ho]; exact h.bye (hb e), h.told, by rw [ho]; exact h.opn⟩
theorem Eats.same {a a' : En} {told : Nat → Bs} {G : List (Bs × Bool)} {eaten : Nat → Nat} (h : Eats a told G eaten) (ho : a'.oth = a.oth) : Eats a' told G eaten :=
  ⟨by rw [ho]; exact h.le, by rw [ho]; exact h.has, by rw [ho]; exact h.new⟩
end Go.Proofs.YtbkpdapagfjmmaaGreatDoor.Lk
