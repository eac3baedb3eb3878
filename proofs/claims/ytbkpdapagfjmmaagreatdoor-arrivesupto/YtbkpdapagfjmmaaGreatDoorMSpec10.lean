import Derived.Test.YtbkpdapagfjmmaaGreatDoorMSpec8Spec9
/-
  Plain mathematics of the document: two ends that belong together: what each of them does. Imports nothing of the program.
-/
namespace Go.Proofs.YtbkpdapagfjmmaaGreatDoor.Lk

section
variable {a a' b b' : En} {Q R : List Fr} {H : List (List Hd)} {bd told : Nat → Bs}

theorem Dir.same (h : Dir a b Q R H bd told) (h1 : a'.own = a.own) (h2 : a'.out = a.out) (h3 : a'.side = a.side) (h4 : a'.win = a.win) (h5 : a'.all = a.all) (g1 : b'.oth = b.oth) (g2 : b'.inn = b.inn) (g3 : b'.side = b.side) (g4 : b'.win = b.win) (g5 : b'.room = b.room) : Dir a' b' Q R H bd told := by
  refine ⟨by rw [h1]; exact h.len, by rw [h1, h3, g1]; exact h.heads, by rw [g1, g2, h2]; exact h.chain, by rw [h1, h4, g1]; exact h.cr, by rw [h5, g5]; exact h.all, by rw [h1]; exact h.ends, by rw [h1]; exact h.busy, by rw [g1]; exact h.shut, by rw [h1, g1]; exact h.fin, by rw [h1, h3]; exact h.cred, by rw [h1, h3]; exact h.rst, by rw [h1, g1]; exact h.body, by rw [h1]; exact h.last, by rw [h3, g3]; exact h.sides, by rw [h4, g4]; exact h.wins⟩

/-- A frame that is about no stream of a. -/
def Alien (s : Nat) (f : Fr) : Prop := f.k ≠ 0 ∧ f.k ≠ 1 ∧ f.k ≠ 2 ∧ (f.k = 3 → f.st % 2 ≠ (1 + s) % 2)

theorem Alien.nobody {s : Nat} {f : Fr} (h : Alien s f) : ¬ f.body := fun x => by
  rcases x with x | x
  · exact h.2.1 x
  · exact h.2.2.1 x

theorem Dir.pushQ (h : Dir a b Q R H bd told) {f : Fr} (hw : Wf a) (hf : Alien a.side f) : Dir a b (Q ++ [f]) R H bd told := by
  obtain ⟨f0, f1, f2, f3⟩ := hf
  have hb : ¬ f.body := Alien.nobody ⟨f0, f1, f2, f3⟩
  have fl : ∀ id, flight (Q ++ [f]) id = flight Q id := fun id => by rw [flight_append, flight_cons, bodyOn_none hb]; simp [flight]
  have fa : flightAll (Q ++ [f]) = flightAll Q := by rw [flightAll_append, flightAll_cons, bodyLen_none hb]; simp [flightAll]
  have own3 : ∀ (i : Nat) (o : Ow), a.own[i]? = some o → f.st = o.id → f.k ≠ 3 := fun i o ho e k3 => by
    have := (hw.own i o ho).id
    exact f3 k3 (by rw [e, this]; omega)
  refine ⟨h.len, h.heads.push f0 (fun x => ?_), h.chain.push f0, fun i o ho => by rw [fl]; exact h.cr i o ho, by rw [fa]; exact h.all, fun i o ho => (h.ends i o ho).push (fun e => ⟨f1, f2, own3 i o ho e⟩), fun i o ho hd g hg e => ?_, fun i p hp h1 h2 g hg e => ?_, h.fin, h.cred, h.rst, fun i o ho => by rw [fl]; exact h.body i o ho, fun i o ho hx => ?_, h.sides, h.wins⟩
  · rcases x with x | x | x
    · exact absurd x f1
    · exact absurd x f2
    · exact absurd x.2 (f3 x.1)
  · rcases List.mem_append.1 hg with hg | hg
    · exact h.busy i o ho hd g hg e
    · simp at hg
      subst hg
      exact ⟨f2, own3 i o ho e⟩
  · rcases List.mem_append.1 hg with hg | hg
    · exact h.shut i p hp h1 h2 g hg e
    · simp at hg
      subst hg
      exact ⟨f1, f2⟩
  · obtain ⟨g, hg, hk, hs⟩ := hx
    rcases List.mem_append.1 hg with hg | hg
    · exact h.last i o ho ⟨g, hg, hk, hs⟩
    · simp at hg
      subst hg
      exact absurd hk f2

theorem Dir.pushR (h : Dir a b Q R H bd told) {f : Fr} (hf : f.k ≠ 4) (h3 : f.k = 3 → f.st % 2 = (1 + a.side) % 2 → ∃ i, i < a.own.length ∧ f.st = 2 * i + 1 + a.side) : Dir a b Q (R ++ [f]) H bd told := by
  have cr : ∀ id, credOn (R ++ [f]) id = credOn R id := fun id => by rw [credOn_append, credOn_cons, credIn_none hf]; simp [credOn]
  refine ⟨h.len, h.heads, h.chain, fun i o ho => by rw [cr]; exact h.cr i o ho, by rw [cr]; exact h.all, h.ends, h.busy, h.shut, h.fin, fun g hg hk => ?_, fun g hg hk hp => ?_, h.body, h.last, h.sides, h.wins⟩
  · rcases List.mem_append.1 hg with hg | hg
    · exact h.cred g hg hk
    · simp at hg
      subst hg
      exact absurd hk hf
  · rcases List.mem_append.1 hg with hg | hg
    · exact h.rst g hg hk hp
    · simp at hg
      subst hg
      exact h3 hk hp
end

/-- Two ends that belong together, and what is on its way between them. -/
structure Both (a b : En) (Q R : List Fr) (Ha Hb : List (List Hd)) (ba ta bb tb : Nat → Bs) : Prop where
  wa : Wf a
  wb : Wf b
  da : a.down = 0
  db : b.down = 0
  gq : ∀ f ∈ Q, Good f.k f.st f.d
  gr : ∀ f ∈ R, Good f.k f.st f.d
  ab : Dir a b Q R Ha ba ta
  ba : Dir b a R Q Hb bb tb

section
variable {a b : En} {Q R : List Fr} {Ha Hb : List (List Hd)} {ba ta bb tb : Nat → Bs}
theorem Both.swap (h : Both a b Q R Ha Hb ba ta bb tb) : Both b a R Q Hb Ha bb tb ba ta := ⟨h.wb, h.wa, h.db, h.da, h.gr, h.gq, h.ba, h.ab⟩

theorem good_push {Q : List Fr} (h : ∀ f ∈ Q, Good f.k f.st f.d) {f : Fr} (hf : Good f.k f.st f.d) : ∀ g ∈ Q ++ [f], Good g.k g.st g.d := fun g hg => by
  rcases List.mem_append.1 hg with hg | hg
  · exact h g hg
  · simp at hg
    subst hg
    exact hf

/-- A frame that is about nothing goes into the row: a ping, a pong, a bye. -/
theorem Both.plain (h : Both a b Q R Ha Hb ba ta bb tb) {k : Nat} {d : Bs} (hk : 5 ≤ k) (hg : Good k 0 d) : Both (a.send k 0 d) b (Q ++ [⟨k, 0, d⟩]) R Ha Hb ba ta bb tb :=
  ⟨h.wa.send hg (by omega), h.wb, h.da, h.db, good_push h.gq (f := ⟨k, 0, d⟩) hg, h.gr,
    (h.ab.pushQ (f := ⟨k, 0, d⟩) h.wa ⟨by simp only; omega, by simp only; omega, by simp only; omega, fun x => by simp only at x; omega⟩).same rfl rfl rfl rfl rfl rfl rfl rfl rfl rfl,
    (h.ba.pushR (f := ⟨k, 0, d⟩) (by simp only; omega) (fun x => by simp only at x; omega)).same rfl rfl rfl rfl rfl rfl rfl rfl rfl rfl⟩
theorem Both.bye (h : Both a b Q R Ha Hb ba ta bb tb) : Both a.bye b (Q ++ [⟨7, 0, wire a.lastOth⟩]) R Ha Hb ba ta bb tb := by
  have q := h.plain (k := 7) (by omega) (good_bye a.lastOth h.wa.lastOth)
  exact ⟨h.wa.bye, q.wb, h.da, q.db, q.gq, q.gr, q.ab.same rfl rfl rfl rfl rfl rfl rfl rfl rfl rfl, q.ba.same rfl rfl rfl rfl rfl rfl rfl rfl rfl rfl⟩

def updN (f : Nat → Bs) (n : Nat) (x : Bs) : Nat → Bs := fun i => if i = n then x else f i
theorem updN_same (f : Nat → Bs) (n : Nat) (x : Bs) : updN f n x n = x := by simp [updN]
theorem updN_other (f : Nat → Bs) {n i : Nat} (x : Bs) (h : i ≠ n) : updN f n x i = f i := by simp [updN, h]

theorem flight_nil {Q : List Fr} {id : Nat} (h : ∀ f ∈ Q, f.st = id → ¬ f.body) : flight Q id = [] := by
  unfold flight
  rw [List.flatMap_eq_nil_iff]
  intro f hf
  by_cases e : f.st = id
  · exact bodyOn_none (h f hf e) id
  · exact bodyOn_other e
theorem credOn_nil {R : List Fr} {id : Nat} (h : ∀ f ∈ R, f.k = 4 → f.st ≠ id) : credOn R id = 0 := by
  induction R with
  | nil => rfl
  | cons f R ih =>
    rw [credOn_cons, ih (fun g hg => h g (by simp [hg]))]
    by_cases hk : f.k = 4
    · rw [credIn_other (h f (by simp) hk)]
    · rw [credIn_none hk]

/-- What is new of a: its next stream is nowhere on the way. -/
theorem Dir.fresh {H : List (List Hd)} {bd told : Nat → Bs} (h : Dir a b Q R H bd told) (f : Fr) (hf : f ∈ Q) (e : f.st = a.nextId) : f.k ≠ 1 ∧ f.k ≠ 2 ∧ f.k ≠ 3 := by
  have key : (f.k = 0 ∨ f.k = 1 ∨ f.k = 2 ∨ (f.k = 3 ∧ f.st % 2 = (1 + a.side) % 2)) → False := fun x => by
    obtain ⟨i, hi, e2⟩ := h.heads.old f hf x
    rw [e] at e2
    unfold En.nextId at e2
    omega
  refine ⟨fun x => key (.inr (.inl x)), fun x => key (.inr (.inr (.inl x))), fun x => key (.inr (.inr (.inr ⟨x, ?_⟩)))⟩
  rw [e]
  unfold En.nextId
  omega

theorem Both.submit (h : Both a b Q R Ha Hb ba ta bb tb) (l : List Hd) (body : Bs) (hl : (wrong l).1 = 0) (h64 : (squeeze 100 a.out l).1.length ≤ 64) (h300 : body.length ≤ 300) (hid : a.nextId ≤ 268435455) :
    Both (({ a with out := (squeeze 100 a.out l).2, own := a.own ++ [⟨a.nextId, body, a.win, false⟩] } : En).send 0 a.nextId (squeeze 100 a.out l).1) b (Q ++ [⟨0, a.nextId, (squeeze 100 a.out l).1⟩]) R (Ha ++ [l]) Hb (updN ba a.own.length body) (updN ta a.own.length []) bb tb := by
  have hok := wrong_ok hl
  have hw : Wf (({ a with out := (squeeze 100 a.out l).2, own := a.own ++ [⟨a.nextId, body, a.win, false⟩] } : En).send 0 a.nextId (squeeze 100 a.out l).1) := by
    have hs := h.wa.side
    have hw2 := h.wa.win2
    suffices q : Wf ({ a with out := (squeeze 100 a.out l).2, own := a.own ++ [⟨a.nextId, body, a.win, false⟩] } : En) from q.send (good_head _ _ (by unfold En.nextId; omega) hid h64)
    refine ⟨h.wa.side, h.wa.win1, h.wa.win2, squeeze_weights 100 l a.out h.wa.out, h.wa.inn, fun i o ho => ?_, fun i o ho => ?_, h.wa.all, h.wa.room, h.wa.row, h.wa.rest⟩
    · rw [List.getElem?_append] at ho
      split at ho
      · obtain ⟨a, b, c, d⟩ := h.wa.own i o ho
        exact ⟨a, b, c, d⟩
      · rename_i hi
        have hi0 : i = a.own.length := by
          have := (List.getElem?_eq_some_iff.1 ho).1
          simp at this
          omega
        subst hi0
        simp at ho
        subst ho
        exact ⟨rfl, hid, h300, by simp only; omega⟩
    · obtain ⟨a, b, c, d, f⟩ := h.wa.oth i o ho
      exact ⟨a, b, c, d, f⟩
  have hn0 : 0 < a.nextId := by unfold En.nextId; omega
  have hex := exR_squeeze 100 (by omega) l a.out [] 6 hok.1 h.wa.out hok.2
  simp only [List.nil_append, List.length_nil] at hex
  generalize hF : (⟨0, a.nextId, (squeeze 100 a.out l).1⟩ : Fr) = F
  have F0 : F.k = 0 := by rw [← hF]
  have Fst : F.st = a.nextId := by rw [← hF]
  have Fd : F.d = (squeeze 100 a.out l).1 := by rw [← hF]
  have hnb : ¬ F.body := fun x => by rcases x with x | x <;> omega
  have D := h.ab
  have fl : ∀ id, flight (Q ++ [F]) id = flight Q id := fun id => by rw [flight_append, flight_cons, bodyOn_none hnb]; simp [flight]
  have fa : flightAll (Q ++ [F]) = flightAll Q := by rw [flightAll_append, flightAll_cons, bodyLen_none hnb]; simp [flightAll]
  have hle := D.heads.le
  have hlen := D.len
  have get : ∀ (i : Nat) (o : Ow), (a.own ++ [⟨a.nextId, body, a.win, false⟩])[i]? = some o → (i < a.own.length ∧ a.own[i]? = some o) ∨ (i = a.own.length ∧ o = ⟨a.nextId, body, a.win, false⟩) := fun i o ho => by
    rw [List.getElem?_append] at ho
    split at ho
    · rename_i hi
      exact .inl ⟨hi, ho⟩
    · have hi0 : i = a.own.length := by
        have := (List.getElem?_eq_some_iff.1 ho).1
        simp at this
        omega
      subst hi0
      simp at ho
      exact .inr ⟨rfl, ho.symm⟩
  have hmem : ∀ g ∈ Q ++ [F], g ∈ Q ∨ g = F := fun g hg => by
    rcases List.mem_append.1 hg with hg | hg
    · exact .inl hg
    · simp at hg; exact .inr hg
  have hcr0 : credOn R a.nextId = 0 := credOn_nil (fun f hf hk e => by
    rcases (D.cred f hf hk).2 with h0 | ⟨i, hi, e2⟩
    · omega
    · rw [e] at e2; unfold En.nextId at e2; omega)
  have hfl0 : flight Q a.nextId = [] := flight_nil (fun f hf e x => by
    have := D.fresh f hf e
    rcases x with x | x
    · exact this.1 x
    · exact this.2.1 x)
  have hoth : b.oth[a.own.length]? = none := List.getElem?_eq_none hle
  refine ⟨hw, h.wb, h.da, h.db, good_push h.gq (by rw [F0, Fst, Fd]; exact good_head _ _ hn0 hid h64), h.gr, ?_, ?_⟩
  · refine ⟨by simp [En.send, hlen], ?_, ?_, fun i o ho => ?_, ?_, fun i o ho => ?_, fun i o ho hd g hg e => ?_, fun i p hp h1 h2 g hg e => ?_, fun i o p ho hp => ?_, fun g hg hk => ?_, fun g hg hk hp => ?_, fun i o ho => ?_, fun i o ho hx => ?_, D.sides, D.wins⟩
    · have := D.heads.pushHead F0 Fst
      simpa [En.send] using this
    · have e : (Ha ++ [l]).drop b.oth.length = Ha.drop b.oth.length ++ [l] := by rw [List.drop_append_of_le_length (by omega)]
      rw [e]
      exact D.chain.pushHead F0 (by rw [Fd]; exact hex)
    · rw [fl]
      rcases get i o ho with ⟨_, ho⟩ | ⟨rfl, rfl⟩
      · exact D.cr i o ho
      · simp only
        rw [hfl0, hcr0, hoth]
        simp [crOf, En.send]
    · rw [fa]; exact D.all
    · rcases get i o ho with ⟨_, ho⟩ | ⟨rfl, rfl⟩
      · exact (D.ends i o ho).push (fun _ => by omega)
      · refine Ends.new (fun g hg e => ?_)
        rcases hmem g hg with hg | rfl
        · exact (D.fresh g hg e).2
        · omega
    · rcases hmem g hg with hg | rfl
      · rcases get i o ho with ⟨_, ho⟩ | ⟨rfl, rfl⟩
        · exact D.busy i o ho hd g hg e
        · exact (D.fresh g hg e).2
      · omega
    · rcases hmem g hg with hg | rfl
      · exact D.shut i p hp h1 h2 g hg e
      · omega
    · rcases get i o ho with ⟨_, ho⟩ | ⟨rfl, rfl⟩
      · exact D.fin i o p ho hp
      · have hp : b.oth[a.own.length]? = some p := hp
        rw [hoth] at hp
        cases hp
    · obtain ⟨h1, h2⟩ := D.cred g hg hk
      refine ⟨h1, ?_⟩
      rcases h2 with h2 | ⟨i, hi, e⟩
      · exact .inl h2
      · exact .inr ⟨i, by simp [En.send]; omega, e⟩
    · obtain ⟨i, hi, e⟩ := D.rst g hg hk hp
      exact ⟨i, by simp [En.send]; omega, e⟩
    · rw [fl]
      rcases get i o ho with ⟨hi, ho⟩ | ⟨rfl, rfl⟩
      · rw [updN_other _ _ (by omega), updN_other _ _ (by omega)]
        exact D.body i o ho
      · rw [hoth, updN_same, updN_same]
        simp [hfl0]
    · obtain ⟨g, hg, hk, hs⟩ := hx
      rcases hmem g hg with hg | rfl
      · rcases get i o ho with ⟨_, ho⟩ | ⟨rfl, rfl⟩
        · exact D.last i o ho ⟨g, hg, hk, hs⟩
        · exact absurd hk (D.fresh g hg hs).2.1
      · omega
  · exact (h.ba.pushR (f := F) (by omega) (fun x => by omega)).same rfl rfl rfl rfl rfl rfl rfl rfl rfl rfl

/-- Of b's streams of the other end the numbers are those of a's own ones. -/
theorem Both.ids (h : Both a b Q R Ha Hb ba ta bb tb) {i : Nat} {p : Ot} (hp : b.oth[i]? = some p) : p.id = 2 * i + 1 + a.side := by
  have := (h.wb.oth i p hp).id
  have := h.ab.sides
  omega
theorem Both.begun (h : Both a b Q R Ha Hb ba ta bb tb) {i : Nat} {p : Ot} (hp : b.oth[i]? = some p) : ∃ o, a.own[i]? = some o := by
  have := h.ab.heads.le
  have := lt_of_get hp
  exact ⟨_, List.getElem?_eq_getElem (by omega)⟩

theorem Both.sendBody (h : Both a b Q R Ha Hb ba ta bb tb) {i : Nat} {o : Ow} (ho : a.own[i]? = some o) (hm : a.may o = true) :
    Both (a.bodyOf i o).2 b (Q ++ [a.bodyFr o]) R Ha Hb ba ta bb tb := by
  have q := h.wa.own i o ho
  have hl := most_le a o
  have D := h.ab
  have hnd : o.done = false := by
    unfold En.may at hm
    cases hd : o.done with
    | false => rfl
    | true => rw [hd] at hm; simp at hm
  have hw : Wf (a.bodyOf i o).2 := by
    refine h.wa.setOwn (x := ⟨o.id, o.left.drop (a.most o), o.cr - a.most o, o.done || decide (a.most o = o.left.length)⟩) ho rfl ?_ ?_ (by have := h.wa.all; omega)
    · have := q.left
      simp only [List.length_drop]
      omega
    · have := q.cr
      simp only
      omega
  have hg := good_body hm (by have := q.id; omega) q.id28
  generalize hF : a.bodyFr o = F at hg ⊢
  have Fst : F.st = o.id := by rw [← hF]; rfl
  have Fd : F.d = o.left.take (a.most o) := by rw [← hF]; rfl
  have Fk : F.k = if a.most o = o.left.length then 2 else 1 := by rw [← hF]; rfl
  have Fb : F.body := by unfold Fr.body; rw [Fk]; split <;> omega
  have Fl : F.d.length = a.most o := by rw [Fd, List.length_take]; omega
  have F0 : F.k ≠ 0 := by rw [Fk]; split <;> omega
  have F3 : F.k ≠ 3 := by rw [Fk]; split <;> omega
  have F4 : F.k ≠ 4 := by rw [Fk]; split <;> omega
  have fl : flight (Q ++ [F]) o.id = flight Q o.id ++ F.d := by
    rw [flight_append, flight_cons, ← Fst, bodyOn_it Fb]; simp [flight]
  have flo : ∀ id, id ≠ o.id → flight (Q ++ [F]) id = flight Q id := fun id hid => by
    rw [flight_append, flight_cons, bodyOn_other (by rw [Fst]; exact fun e => hid e.symm)]; simp [flight]
  have fa : flightAll (Q ++ [F]) = flightAll Q + a.most o := by rw [flightAll_append, flightAll_cons, bodyLen_it Fb, Fl]; simp [flightAll]
  have idne : ∀ (j : Nat) (x : Ow), a.own[j]? = some x → j ≠ i → x.id ≠ o.id := fun j x hx hj e => by
    have := (h.wa.own j x hx).id
    have := q.id
    omega
  have hmem : ∀ g ∈ Q ++ [F], g ∈ Q ∨ g = F := fun g hg => by
    rcases List.mem_append.1 hg with hg | hg
    · exact .inl hg
    · simp at hg; exact .inr hg
  refine ⟨hw, h.wb, h.da, h.db, good_push h.gq hg, h.gr, ?_, ?_⟩
  · refine ⟨by simpa [En.bodyOf] using D.len, ?_, D.chain.push F0, fun j x hx => ?_, ?_, fun j x hx => ?_, fun j x hx hd g hg e => ?_, fun j p hp h1 h2 g hg e => ?_, fun j x p hx hp h1 h2 => ?_, fun g hg hk => ?_, fun g hg hk hp => ?_, fun j x hx => ?_, fun j x hx hy => ?_, D.sides, D.wins⟩
    · have := D.heads.push (f := F) F0 (fun _ => ⟨i, lt_of_get ho, by rw [Fst]; exact q.id⟩)
      simpa [En.bodyOf] using this
    · rcases set_get hx with ⟨rfl, rfl, _⟩ | ⟨hj, hx⟩
      · have := D.cr j o ho
        show (o.cr - a.most o) + (flight (Q ++ [F]) o.id).length + credOn R o.id ≤ crOf a.win b.oth[j]?
        rw [fl, List.length_append, Fl]
        omega
      · have := D.cr j x hx
        rw [flo x.id (idne j x hx hj)]
        exact this
    · have := D.all
      show a.all - a.most o + flightAll (Q ++ [F]) + credOn R 0 ≤ b.room
      rw [fa]
      omega
    · rcases set_get hx with ⟨rfl, rfl, _⟩ | ⟨hj, hx⟩
      · exact (D.ends j o ho).pushNew (D.busy j o ho hnd)
      · exact (D.ends j x hx).push (fun e => absurd (by rw [← e, Fst]) (idne j x hx hj))
    · rcases set_get hx with ⟨rfl, rfl, _⟩ | ⟨hj, hx⟩
      · simp only [Bool.or_eq_false_iff, decide_eq_false_iff_not] at hd
        rcases hmem g hg with hg | rfl
        · exact D.busy j o ho hnd g hg e
        · rw [if_neg hd.2] at Fk
          omega
      · rcases hmem g hg with hg | rfl
        · exact D.busy j x hx hd g hg e
        · exact absurd (by rw [← e, Fst]) (idne j x hx hj)
    · rcases hmem g hg with hg | rfl
      · exact D.shut j p hp h1 h2 g hg e
      · have e1 := h.ids hp
        have e2 := q.id
        have hj : j = i := by omega
        subst hj
        have := D.fin j o p ho hp h1 h2
        rw [hnd] at this
        cases this
    · rcases set_get hx with ⟨rfl, rfl, _⟩ | ⟨hj, hx⟩
      · have := D.fin j o p ho hp h1 h2
        rw [hnd] at this
        cases this
      · exact D.fin j x p hx hp h1 h2
    · obtain ⟨h1, h2⟩ := D.cred g hg hk
      exact ⟨h1, by simpa [En.bodyOf] using h2⟩
    · have := D.rst g hg hk hp
      simpa [En.bodyOf] using this
    · rcases set_get hx with ⟨rfl, rfl, _⟩ | ⟨hj, hx⟩
      · have := D.body j o ho
        simp only
        rw [fl, Fd]
        have e : flight Q o.id ++ List.take (a.most o) o.left ++ List.drop (a.most o) o.left = flight Q o.id ++ o.left := by rw [List.append_assoc, List.take_append_drop]
        rw [e]
        exact this
      · rw [flo x.id (idne j x hx hj)]
        exact D.body j x hx
    · obtain ⟨g, hg, hk, hs⟩ := hy
      rcases set_get hx with ⟨rfl, rfl, _⟩ | ⟨hj, hx⟩
      · rcases hmem g hg with hg | rfl
        · exact absurd hk (D.busy j o ho hnd g hg hs).1
        · rw [Fk] at hk
          split at hk
          · rename_i hn
            simp only
            rw [hn]
            simp
          · cases hk
      · rcases hmem g hg with hg | rfl
        · exact D.last j x hx ⟨g, hg, hk, hs⟩
        · exact absurd (by rw [← hs, Fst]) (idne j x hx hj)
  · exact (h.ba.pushR (f := F) F4 (fun x => absurd x F3)).same rfl rfl rfl rfl rfl rfl rfl rfl rfl rfl

theorem Both.resetOwn (h : Both a b Q R Ha Hb ba ta bb tb) {i : Nat} {o : Ow} (ho : a.own[i]? = some o) (hnd : o.done = false) {code : Nat} (hc : code ≤ 268435455) :
    Both (({ a with own := a.own.set i { o with done := true } } : En).send 3 o.id (wire code)) b (Q ++ [⟨3, o.id, wire code⟩]) R Ha Hb ba ta bb tb := by
  have q := h.wa.own i o ho
  have D := h.ab
  have hg := good_reset o.id code (by have := q.id; omega) q.id28 hc
  have hw : Wf (({ a with own := a.own.set i { o with done := true } } : En).send 3 o.id (wire code)) := by
    have q1 := h.wa.setOwn (x := { o with done := true }) (t := a.turn) ho rfl q.left q.cr h.wa.all
    exact Wf.send q1 hg
  generalize hF : (⟨3, o.id, wire code⟩ : Fr) = F at *
  have Fst : F.st = o.id := by rw [← hF]
  have Fk : F.k = 3 := by rw [← hF]
  have hgF : Good F.k F.st F.d := by rw [← hF]; exact hg
  have hnb : ¬ F.body := fun x => by rcases x with x | x <;> omega
  have fl : ∀ id, flight (Q ++ [F]) id = flight Q id := fun id => by rw [flight_append, flight_cons, bodyOn_none hnb]; simp [flight]
  have fa : flightAll (Q ++ [F]) = flightAll Q := by rw [flightAll_append, flightAll_cons, bodyLen_none hnb]; simp [flightAll]
  have idne : ∀ (j : Nat) (x : Ow), a.own[j]? = some x → j ≠ i → x.id ≠ o.id := fun j x hx hj e => by
    have := (h.wa.own j x hx).id
    have := q.id
    omega
  have hmem : ∀ g ∈ Q ++ [F], g ∈ Q ∨ g = F := fun g hg => by
    rcases List.mem_append.1 hg with hg | hg
    · exact .inl hg
    · simp at hg; exact .inr hg
  refine ⟨hw, h.wb, h.da, h.db, good_push h.gq hgF, h.gr, ?_, ?_⟩
  · refine ⟨by simpa [En.send] using D.len, ?_, D.chain.push (by omega), fun j x hx => ?_, by rw [fa]; exact D.all, fun j x hx => ?_, fun j x hx hd g hg e => ?_, fun j p hp h1 h2 g hg e => ?_, fun j x p hx hp h1 h2 => ?_, fun g hg hk => ?_, fun g hg hk hp => ?_, fun j x hx => ?_, fun j x hx hy => ?_, D.sides, D.wins⟩
    · have := D.heads.push (f := F) (by omega) (fun _ => ⟨i, lt_of_get ho, by rw [Fst]; exact q.id⟩)
      simpa [En.send] using this
    · rw [fl]
      rcases set_get hx with ⟨rfl, rfl, _⟩ | ⟨hj, hx⟩
      · exact D.cr j o ho
      · exact D.cr j x hx
    · rcases set_get hx with ⟨rfl, rfl, _⟩ | ⟨hj, hx⟩
      · exact (D.ends j o ho).pushNew (D.busy j o ho hnd)
      · exact (D.ends j x hx).push (fun e => absurd (by rw [← e, Fst]) (idne j x hx hj))
    · rcases set_get hx with ⟨rfl, rfl, _⟩ | ⟨hj, hx⟩
      · cases hd
      · rcases hmem g hg with hg | rfl
        · exact D.busy j x hx hd g hg e
        · exact absurd (by rw [← e, Fst]) (idne j x hx hj)
    · rcases hmem g hg with hg | rfl
      · exact D.shut j p hp h1 h2 g hg e
      · omega
    · rcases set_get hx with ⟨rfl, rfl, _⟩ | ⟨hj, hx⟩
      · rfl
      · exact D.fin j x p hx hp h1 h2
    · obtain ⟨h1, h2⟩ := D.cred g hg hk
      exact ⟨h1, by simpa [En.send] using h2⟩
    · have := D.rst g hg hk hp
      simpa [En.send] using this
    · rw [fl]
      rcases set_get hx with ⟨rfl, rfl, _⟩ | ⟨hj, hx⟩
      · exact D.body j o ho
      · exact D.body j x hx
    · obtain ⟨g, hg, hk, hs⟩ := hy
      rcases hmem g hg with hg | rfl
      · rcases set_get hx with ⟨rfl, rfl, _⟩ | ⟨hj, hx⟩
        · exact D.last j o ho ⟨g, hg, hk, hs⟩
        · exact D.last j x hx ⟨g, hg, hk, hs⟩
      · omega
  · refine (h.ba.pushR (f := F) (by omega) (fun _ e => ?_)).same rfl rfl rfl rfl rfl rfl rfl rfl rfl rfl
    have := q.id
    have := D.sides
    rw [Fst] at e
    omega
end

theorem numOf_wire {n : Nat} (h : n ≤ 268435455) : numOf (wire n) = n := by
  have hr := rd_wire0 n [] h
  rw [List.append_nil] at hr
  unfold numOf
  rw [hr]

section
variable {a b : En} {Q R : List Fr} {H : List (List Hd)} {bd told : Nat → Bs}
/-- b gives n bytes back to all streams. -/
theorem Dir.give (h : Dir a b Q R H bd told) (hw : Wf a) {n : Nat} (h1 : 1 ≤ n) (h2 : n ≤ 268435455) : Dir a ({ b with room := b.room + n } : En) Q (R ++ [⟨4, 0, wire n⟩]) H bd told := by
  have cr : ∀ id, id ≠ 0 → credOn (R ++ [⟨4, 0, wire n⟩]) id = credOn R id := fun id hid => by
    rw [credOn_append, credOn_cons, credIn_other (by simp only; omega)]; simp [credOn]
  have cr0 : credOn (R ++ [⟨4, 0, wire n⟩]) 0 = credOn R 0 + n := by
    rw [credOn_append, credOn_cons]
    have : credIn 0 ⟨4, 0, wire n⟩ = n := by unfold credIn; rw [if_pos ⟨rfl, rfl⟩]; exact numOf_wire h2
    rw [this]; simp [credOn]
  refine ⟨h.len, h.heads, h.chain, fun i o ho => ?_, ?_, h.ends, h.busy, h.shut, h.fin, fun g hg hk => ?_, fun g hg hk hp => ?_, h.body, h.last, h.sides, h.wins⟩
  · rw [cr o.id (by have := (hw.own i o ho).id; omega)]
    exact h.cr i o ho
  · have := h.all
    rw [cr0]
    show _ ≤ b.room + n
    omega
  · rcases List.mem_append.1 hg with hg | hg
    · exact h.cred g hg hk
    · simp at hg
      subst hg
      exact ⟨by simp only; rw [numOf_wire h2]; exact h1, .inl rfl⟩
  · rcases List.mem_append.1 hg with hg | hg
    · exact h.rst g hg hk hp
    · simp at hg
      subst hg
      cases hk

/-- b turns what it holds of a stream of a. -/
theorem Dir.setOth (h : Dir a b Q R H bd told) {i : Nat} {p x : Ot} (hp : b.oth[i]? = some p) (hid : x.id = p.id) (hcr : p.cr ≤ x.cr) (hsh : x.opn = false → x.drp = false → ∀ f ∈ Q, f.st = p.id → f.k ≠ 1 ∧ f.k ≠ 2)
    (hfin : x.opn = false → x.drp = false → ∀ o, a.own[i]? = some o → o.done = true) (hop : x.opn = true → p.opn = true) : Dir a ({ b with oth := b.oth.set i x } : En) Q R H bd told := by
  have hi := lt_of_get hp
  have get : ∀ j, (b.oth.set i x)[j]? = if j = i then some x else b.oth[j]? := fun j => by
    rw [List.getElem?_set]
    split
    · rename_i e; subst e; simp
    · rename_i e; rw [if_neg (fun e' => e e'.symm)]
  refine ⟨h.len, by simpa using h.heads, by simpa using h.chain, fun j o ho => ?_, h.all, h.ends, h.busy, fun j y hy h1 h2 g hg e => ?_, fun j o y ho hy h1 h2 => ?_, h.cred, h.rst, fun j o ho => ?_, h.last, h.sides, h.wins⟩
  · have := h.cr j o ho
    show _ ≤ crOf a.win (b.oth.set i x)[j]?
    rw [get]
    split
    · rename_i e
      subst e
      rw [hp] at this
      unfold crOf at this ⊢
      simp only at this ⊢
      omega
    · exact this
  · rcases set_get hy with ⟨rfl, rfl, _⟩ | ⟨hj, hy⟩
    · rw [hid] at e
      exact hsh h1 h2 g hg e
    · exact h.shut j y hy h1 h2 g hg e
  · rcases set_get hy with ⟨rfl, rfl, _⟩ | ⟨hj, hy⟩
    · exact hfin h1 h2 o ho
    · exact h.fin j o y ho hy h1 h2
  · have := h.body j o ho
    show match (b.oth.set i x)[j]? with
      | none => _
      | some p => _
    rw [get]
    split
    · rename_i e
      split at e
      · cases e
      · rw [e] at this; exact this
    · rename_i y e
      split at e
      · rename_i ej
        subst ej
        cases e
        rw [hp] at this
        simp only at this
        cases hx : x.opn with
        | true =>
          rw [hop hx] at this
          simpa using this
        | false =>
          rw [if_neg (by simp)]
          cases hpo : p.opn with
          | true =>
            rw [hpo] at this
            simp only [if_true] at this
            rw [this]
            exact List.prefix_append _ _
          | false =>
            rw [hpo] at this
            simpa using this
      · rw [e] at this
        exact this
/-- A credit of a stream of a goes to it. -/
theorem Dir.credit (h : Dir a b Q R H bd told) (hw : Wf a) {i : Nat} {p : Ot} (hp : b.oth[i]? = some p) (hid : p.id = 2 * i + 1 + a.side) {n : Nat} (h1 : 1 ≤ n) (h2 : n ≤ 268435455) : Dir a ({ b with oth := b.oth.set i { p with cr := p.cr + n } } : En) Q (R ++ [⟨4, p.id, wire n⟩]) H bd told := by
  have D := h.setOth (x := { p with cr := p.cr + n }) hp rfl (by simp) (fun a1 a2 => h.shut i p hp a1 a2) (fun a1 a2 o ho => h.fin i o p ho hp a1 a2) (fun x => x)
  have hi := lt_of_get hp
  have hle := h.heads.le
  have cr : ∀ id, id ≠ p.id → credOn (R ++ [⟨4, p.id, wire n⟩]) id = credOn R id := fun id hid => by
    rw [credOn_append, credOn_cons, credIn_other (by simp only; omega)]; simp [credOn]
  have cri : credOn (R ++ [⟨4, p.id, wire n⟩]) p.id = credOn R p.id + n := by
    rw [credOn_append, credOn_cons]
    have : credIn p.id ⟨4, p.id, wire n⟩ = n := by unfold credIn; rw [if_pos ⟨rfl, rfl⟩]; exact numOf_wire h2
    rw [this]; simp [credOn]
  refine ⟨D.len, D.heads, D.chain, fun j o ho => ?_, ?_, D.ends, D.busy, D.shut, D.fin, fun g hg hk => ?_, fun g hg hk hp => ?_, D.body, D.last, D.sides, D.wins⟩
  · by_cases e : o.id = p.id
    · have hj : j = i := by have := (hw.own j o ho).id; omega
      subst hj
      have := h.cr j o ho
      rw [hp] at this
      rw [e, cri]
      rw [e] at this
      show _ ≤ crOf a.win (b.oth.set j _)[j]?
      rw [List.getElem?_set_self hi]
      unfold crOf at this ⊢
      simp only at this ⊢
      omega
    · rw [cr o.id e]
      exact D.cr j o ho
  · have := D.all
    rw [cr 0 (by omega)]
    exact this
  · rcases List.mem_append.1 hg with hg | hg
    · exact D.cred g hg hk
    · simp at hg
      subst hg
      exact ⟨by simp only; rw [numOf_wire h2]; exact h1, .inr ⟨i, by omega, hid⟩⟩
  · rcases List.mem_append.1 hg with hg | hg
    · exact D.rst g hg hk hp
    · simp at hg
      subst hg
      cases hk
end
end Go.Proofs.YtbkpdapagfjmmaaGreatDoor.Lk
