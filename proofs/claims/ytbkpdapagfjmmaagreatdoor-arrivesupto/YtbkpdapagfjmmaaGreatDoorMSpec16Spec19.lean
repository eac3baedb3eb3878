import Derived.Test.YtbkpdapagfjmmaaGreatDoorMSpec13Spec15
import Derived.Test.YtbkpdapagfjmmaaGreatDoorMSpec17W1
/-
  Plain mathematics of the document: two ends that belong together, whatever they are told. Imports nothing of the program.
-/
namespace Go.Proofs.YtbkpdapagfjmmaaGreatDoor.Lk

/-- Two ends a, b, the bytes p, q that each has sent and that have not come; of each the headers H and bodies bd of its streams, what was told of them (G, told), and how much of that was consumed (x). -/
def Joins (a b : En) (p q : Bs) (Ha Hb : List (List Hd)) (ba ta bb tb : Nat → Bs) (Ga Gb : List (Bs × Bool)) (xa xb : Nat → Nat) : Prop :=
  ∃ Q R, Both a b Q R Ha Hb ba ta bb tb ∧ Way a p b Q ∧ Way b q a R ∧ Lis b ta Ga ∧ Lis a tb Gb ∧ Eats b ta Ga xa ∧ Eats a tb Gb xb

section
variable {a b : En} {p q : Bs} {Ha Hb : List (List Hd)} {ba ta bb tb : Nat → Bs} {Ga Gb : List (Bs × Bool)} {xa xb : Nat → Nat}

theorem Joins.swap (h : Joins a b p q Ha Hb ba ta bb tb Ga Gb xa xb) : Joins b a q p Hb Ha bb tb ba ta Gb Ga xb xa := by
  obtain ⟨Q, R, h1, h2, h3, h4, h5, h6, h7⟩ := h
  exact ⟨R, Q, h1.swap, h3, h2, h5, h4, h7, h6⟩
theorem Joins.start (s t win : Nat) (h : s + t = 1) (h1 : 1 ≤ win) (h2 : win ≤ 200) : Joins (En.new s win) (En.new t win) [] [] [] [] (fun _ => []) (fun _ => []) (fun _ => []) (fun _ => []) [] [] (fun _ => 0) (fun _ => 0) :=
  ⟨[], [], Both.start s t win h h1 h2, Way.start s t win, Way.start t s win, Lis.start t win, Lis.start s win, Eats.start t win, Eats.start s win⟩
theorem Joins.up (h : Joins a b p q Ha Hb ba ta bb tb Ga Gb xa xb) : a.down = 0 ∧ b.down = 0 ∧ Wf a ∧ Wf b ∧ Ha.length = a.own.length ∧ Hb.length = b.own.length ∧ Ga.length ≤ Ha.length ∧ Gb.length ≤ Hb.length := by
  obtain ⟨Q, R, h1, _, _, h4, h5, _, _⟩ := h
  have := h1.ab.heads.le
  have := h1.ba.heads.le
  have := h1.ab.len
  have := h1.ba.len
  have := h4.len
  have := h5.len
  exact ⟨h1.da, h1.db, h1.wa, h1.wb, h1.ab.len, h1.ba.len, by omega, by omega⟩

theorem Way.rest {a a' : En} {p : Bs} {b : En} {Q : List Fr} (h : Way b p a Q) (hr : a'.rest = a.rest) : Way b p a' Q := by
  obtain ⟨G, W, h1, h2, h3⟩ := h
  exact ⟨G, W, by rw [hr]; exact h1, h2, h3⟩

/-- a does something that leaves the streams of b, as a knows them, and a's reader as they are. -/
theorem Joins.call (h : Joins a b p q Ha Hb ba ta bb tb Ga Gb xa xb) {a' : En} {Ha' : List (List Hd)} {ba' ta' : Nat → Bs} (hB : ∀ Q R, Both a b Q R Ha Hb ba ta bb tb → ∃ S, Sent a a' S ∧ Both a' b (Q ++ S) R Ha' Hb ba' ta' bb tb) (hr : a'.rest = a.rest) (ho : a'.oth = a.oth) (hb : a'.byeS = false → a.byeS = false)
    (hl : Lis b ta Ga → Lis b ta' Ga) (he : Eats b ta Ga xa → Eats b ta' Ga xa) : Joins a' b p q Ha' Hb ba' ta' bb tb Ga Gb xa xb := by
  obtain ⟨Q, R, h1, h2, h3, h4, h5, h6, h7⟩ := h
  obtain ⟨S, hS, h1'⟩ := hB Q R h1
  exact ⟨Q ++ S, R, h1', h2.sent hS, h3.rest hr, hl h4, h5.same ho hb, he h6, h7.same ho⟩

theorem Joins.pingC (h : Joins a b p q Ha Hb ba ta bb tb Ga Gb xa xb) (t : Bs) : Joins (a.pingC t).2 b p q Ha Hb ba ta bb tb Ga Gb xa xb ∧ ((a.pingC t).1 = 0 ∨ t.length ≠ 8) := by
  have keep : (a.pingC t).2.rest = a.rest ∧ (a.pingC t).2.oth = a.oth ∧ (a.pingC t).2.byeS = a.byeS := by
    unfold En.pingC
    split
    · exact ⟨rfl, rfl, rfl⟩
    · split <;> exact ⟨rfl, rfl, rfl⟩
  refine ⟨h.call (fun Q R hB => by obtain ⟨S, h1, h2, _⟩ := hB.pingC t; exact ⟨S, h1, h2⟩) keep.1 keep.2.1 (fun e => by rw [keep.2.2] at e; exact e) (fun x => x) (fun x => x), ?_⟩
  obtain ⟨Q, R, h1, _⟩ := h
  obtain ⟨S, _, _, h3⟩ := h1.pingC t
  exact h3
theorem Joins.byeC' (h : Joins a b p q Ha Hb ba ta bb tb Ga Gb xa xb) : Joins a.byeC'.2 b p q Ha Hb ba ta bb tb Ga Gb xa xb := by
  have keep : a.byeC'.2.rest = a.rest ∧ a.byeC'.2.oth = a.oth ∧ (a.byeC'.2.byeS = false → a.byeS = false) := by
    unfold En.byeC'
    split
    · exact ⟨rfl, rfl, fun x => x⟩
    · split
      · exact ⟨rfl, rfl, fun x => x⟩
      · exact ⟨rfl, rfl, fun x => by cases x⟩
  exact h.call (fun Q R hB => hB.byeC') keep.1 keep.2.1 keep.2.2 (fun x => x) (fun x => x)

theorem Joins.submitC (h : Joins a b p q Ha Hb ba ta bb tb Ga Gb xa xb) (l : List Hd) (body : Bs) :
    ((a.submitC l body).1.2.1 ≠ 0 ∧ (a.submitC l body).2 = a) ∨
    ((a.submitC l body).1 = (2 * Ha.length + 1 + a.side, 0, 0) ∧ Joins (a.submitC l body).2 b p q (Ha ++ [l]) Hb (updN ba Ha.length body) (updN ta Ha.length []) bb tb Ga Gb xa xb) := by
  obtain ⟨Q, R, h1, h2, h3, h4, h5, h6, h7⟩ := h
  have hlen := h1.ab.len
  have hle := h1.ab.heads.le
  rcases h1.submitC l body with x | ⟨e1, e2, e3, e4, e5, S, hS, hB⟩
  · exact .inl x
  · rw [← hlen] at e1 hB
    refine .inr ⟨e1, Q ++ S, R, hB, h2.sent hS, h3.rest e3, ?_, h5.same e4 (fun e => by rw [e5] at e; exact e), ?_, h7.same e4⟩
    · refine ⟨h4.len, h4.bye, fun i g hg => ?_, h4.opn⟩
      have := lt_of_get hg
      have := h4.len
      rw [updN_other _ _ (by omega)]
      exact h4.told i g hg
    · refine ⟨fun i y hy => ?_, h6.has, h6.new⟩
      have := lt_of_get hy
      rw [updN_other _ _ (by omega)]
      exact h6.le i y hy

theorem Joins.consumeC (h : Joins a b p q Ha Hb ba ta bb tb Ga Gb xa xb) (st n : Int) :
    ((a.consumeC st n).1 ≠ 0 ∧ (a.consumeC st n).2 = a) ∨
    ((a.consumeC st n).1 = 0 ∧ ∃ i : Nat, st = 2 * i + 1 + b.side ∧ 1 ≤ n ∧ i < Gb.length ∧ xb i + n.toNat ≤ (tb i).length ∧ Joins (a.consumeC st n).2 b p q Ha Hb ba ta bb tb Ga Gb xa (fun j => if j = i then xb i + n.toNat else xb j)) := by
  obtain ⟨Q, R, h1, h2, h3, h4, h5, h6, h7⟩ := h
  rcases consumeC_cases a st n with x | ⟨e0, i, y, hy, hid, hn1, hn2, ho, hb, hr⟩
  · exact .inl x
  · obtain ⟨S, hS, hB⟩ := h1.consumeC st n
    have hid2 := h1.swap.ids hy
    obtain ⟨g1, g2, g3⟩ := h7.eat hy ho (by omega) (by omega)
    exact .inr ⟨e0, i, by omega, hn1, g1, g2, Q ++ S, R, hB, h2.sent hS, h3.rest hr, h4, h5.eat hy ho hb, h6, g3⟩

theorem back_keep (e : En) (n : Nat) : (e.back n).oth = e.oth ∧ (e.back n).byeS = e.byeS ∧ (e.back n).rest = e.rest := by
  unfold En.back
  split <;> exact ⟨rfl, rfl, rfl⟩

theorem Joins.resetC (h : Joins a b p q Ha Hb ba ta bb tb Ga Gb xa xb) (st code : Int) : Joins (a.resetC st code).2 b p q Ha Hb ba ta bb tb Ga Gb xa xb ∧
    ((a.resetC st code).1 = 0 → (∃ i : Nat, i < Ha.length ∧ st = 2 * i + 1 + a.side) ∨ (∃ i : Nat, i < Hb.length ∧ st = 2 * i + 1 + b.side)) := by
  obtain ⟨Q, R, h1, h2, h3, h4, h5, h6, h7⟩ := h
  obtain ⟨S, hS, hB⟩ := h1.resetC st code
  have hlen := h1.ab.len
  have hlen2 := h1.ba.len
  have hle := h1.ba.heads.le
  have key : (a.resetC st code).2.rest = a.rest ∧ (a.resetC st code).2.byeS = a.byeS ∧ ((a.resetC st code).2.oth = a.oth ∨ ∃ (i : Nat) (y x : Ot), a.oth[i]? = some y ∧ x.opn = false ∧ x.held = 0 ∧ (a.resetC st code).2.oth = a.oth.set i x) ∧ ((a.resetC st code).1 = 0 → (∃ i : Nat, i < Ha.length ∧ st = 2 * i + 1 + a.side) ∨ (∃ i : Nat, i < Hb.length ∧ st = 2 * i + 1 + b.side)) := by
    unfold En.resetC
    split
    · exact ⟨rfl, rfl, .inl rfl, fun e => by cases e⟩
    · split
      · exact ⟨rfl, rfl, .inl rfl, fun e => by cases e⟩
      · cases hx : (ownIx a.own st).bind fun i => (a.own[i]?).bind fun o => if o.done then none else some (i, o) with
        | some r =>
          obtain ⟨i, o⟩ := r
          obtain ⟨j, hj1, hj⟩ := Option.bind_eq_some_iff.1 hx
          obtain ⟨o', ho', hj⟩ := Option.bind_eq_some_iff.1 hj
          have e1 := ownIx_some hj1
          obtain ⟨o2, ho2, hid⟩ := e1
          have := (h1.wa.own j o2 ho2).id
          have := lt_of_get ho2
          exact ⟨rfl, rfl, .inl rfl, fun _ => .inl ⟨j, by omega, by omega⟩⟩
        | none =>
          simp only
          cases hy : (othIx a.oth st).bind fun i => (a.oth[i]?).bind fun o => if o.opn then some (i, o) else none with
          | none => exact ⟨rfl, rfl, .inl rfl, fun e => by cases e⟩
          | some r =>
            obtain ⟨i, y⟩ := r
            obtain ⟨j, hj1, hj⟩ := Option.bind_eq_some_iff.1 hy
            obtain ⟨y', hy', hj⟩ := Option.bind_eq_some_iff.1 hj
            have : j = i ∧ y' = y := by
              split at hj
              · cases hj; exact ⟨rfl, rfl⟩
              · cases hj
            obtain ⟨rfl, rfl⟩ := this
            obtain ⟨y2, hy2, hid⟩ := othIx_some hj1
            have e2 : y2 = y' := by rw [hy'] at hy2; exact (Option.some.inj hy2).symm
            subst e2
            have hid2 := h1.swap.ids hy'
            have hlt := lt_of_get hy'
            simp only
            have bk := back_keep (({ a with oth := a.oth.set j { y2 with opn := false, drp := true, held := 0 } } : En).send 3 y2.id (wire code.toNat)) y2.held
            exact ⟨bk.2.2, bk.2.1, .inr ⟨j, y2, { y2 with opn := false, drp := true, held := 0 }, hy', rfl, rfl, bk.1⟩, fun _ => .inr ⟨j, by omega, by omega⟩⟩
  refine ⟨⟨Q ++ S, R, hB, h2.sent hS, h3.rest key.1, h4, ?_, h6, ?_⟩, key.2.2.2⟩
  · rcases key.2.2.1 with ho | ⟨i, y, x, hy, hxo, hxh, ho⟩
    · exact h5.same ho (fun e => by rw [key.2.1] at e; exact e)
    · refine ⟨by rw [ho]; simpa using h5.len, fun e => by rw [ho]; simpa using h5.bye (by rw [← key.2.1]; exact e), h5.told, fun j z hz hzo => ?_⟩
      rw [ho] at hz
      rcases set_get hz with ⟨rfl, rfl, _⟩ | ⟨_, hz⟩
      · rw [hxo] at hzo; cases hzo
      · exact h5.opn j z hz hzo
  · rcases key.2.2.1 with ho | ⟨i, y, x, hy, hxo, hxh, ho⟩
    · exact h7.same ho
    · refine ⟨fun j z hz => ?_, fun j z hz h0 => ?_, fun j hj => h7.new j (by rw [ho] at hj; simpa using hj)⟩
      · rw [ho] at hz
        rcases set_get hz with ⟨rfl, rfl, _⟩ | ⟨_, hz⟩
        · have := h7.le j y hy
          omega
        · exact h7.le j z hz
      · rw [ho] at hz
        rcases set_get hz with ⟨rfl, rfl, _⟩ | ⟨_, hz⟩
        · omega
        · exact h7.has j z hz h0

theorem drain1_keep {a a' : En} {s : Bs} (h : a.drain1 = some (s, a')) : a'.oth = a.oth ∧ a'.byeS = a.byeS := by
  unfold En.drain1 at h
  split at h
  · cases h; exact ⟨rfl, rfl⟩
  · split at h
    · cases h
    · split at h
      · cases h
      · split at h
        · cases h
        · cases h; exact ⟨rfl, rfl⟩
theorem drain_keep : ∀ (n : Nat) (a : En), (En.drain n a).2.oth = a.oth ∧ (En.drain n a).2.byeS = a.byeS
  | 0, a => ⟨rfl, rfl⟩
  | n + 1, a => by
    rw [En.drain]
    cases hd : a.drain1 with
    | none => exact ⟨rfl, rfl⟩
    | some r =>
      obtain ⟨s, a'⟩ := r
      have h1 := drain1_keep hd
      have h2 := drain_keep n a'
      exact ⟨h2.1.trans h1.1, h2.2.trans h1.2⟩

theorem Joins.drain (h : Joins a b p q Ha Hb ba ta bb tb Ga Gb xa xb) (n : Nat) : Joins (En.drain n a).2 b (p ++ (En.drain n a).1) q Ha Hb ba ta bb tb Ga Gb xa xb := by
  obtain ⟨Q, R, h1, h2, h3, h4, h5, h6, h7⟩ := h
  obtain ⟨Q', hB, hW, hr⟩ := Both.drain n h1 h2
  have hk := drain_keep n a
  exact ⟨Q', R, hB, hW, h3.rest hr, h4, h5.same hk.1 (fun e => by rw [hk.2] at e; exact e), h6, h7.same hk.1⟩

/-- Bytes of a come to b: b stays up; what it tells goes through. -/
theorem Joins.move {x y : Bs} (h : Joins a b (x ++ y) q Ha Hb ba ta bb tb Ga Gb xa xb) : (b.feed x).2.down = 0 ∧ ∃ ta' Ga', hearL a.side Ha ba Ga (b.feed x).1 = some Ga' ∧ Joins a (b.feed x).2 y q Ha Hb ba ta' bb tb Ga' Gb xa xb := by
  obtain ⟨Q, R, h1, h2, h3, h4, h5, h6, h7⟩ := h
  obtain ⟨S, Q', ta', hd, hS, hB, hW, hH⟩ := h1.feed h2
  obtain ⟨Ga', e1, l1, t1⟩ := hH Ga h4
  exact ⟨hd, ta', Ga', e1, Q', R ++ S, hB, hW, h3.sent hS, l1, h5, t1 xa h6, h7⟩
end
end Go.Proofs.YtbkpdapagfjmmaaGreatDoor.Lk

/-
  Plain mathematics of the document: an end that came down has a bye in its row. Imports nothing of the program.
-/
namespace Go.Proofs.YtbkpdapagfjmmaaGreatDoor.Lk

theorem En.back_byeS (e : En) (n : Nat) : (e.back n).byeS = e.byeS := by unfold En.back; split <;> rfl
theorem En.frame_byeS (e : En) (f : Fr) : (e.frame f).2.2.byeS = e.byeS := by
  unfold En.frame
  split
  · unfold En.headF
    split
    · rfl
    · split
      · rfl
      · split <;> rfl
  · split
    · unfold En.pieceF
      split
      · rfl
      · split
        · rfl
        · split
          · rfl
          · split
            · rfl
            · exact En.back_byeS _ _
    · split
      · unfold En.resetF
        split
        · split <;> rfl
        · split
          · rfl
          · split
            · exact En.back_byeS _ _
            · rfl
      · split
        · unfold En.creditF
          split
          · split <;> rfl
          · split
            · rfl
            · split
              · rfl
              · split <;> rfl
        · split
          · rfl
          · split <;> rfl
theorem En.run_byeS : ∀ (l : List Fr) (e : En), (e.run l).2.2.byeS = e.byeS
  | [], e => rfl
  | f :: l, e => by
    rw [En.run]
    split
    · exact e.frame_byeS f
    · rw [En.run_byeS l]; exact e.frame_byeS f
/-- Whoever comes down has a bye to send. -/
theorem En.feed_bye (e : En) (b : Bs) (hd : e.down = 0) (hs : e.byeS = false) (h : (e.feed b).2.down ≠ 0) : ∃ r n, (e.feed b).2.row = r ++ [packed 7 0 (wire n)] := by
  rw [e.feed_run b hd _ rfl _ rfl] at h ⊢
  simp only at h ⊢
  rw [En.falls_down] at h
  unfold En.falls
  rw [if_pos]
  · exact ⟨_, _, rfl⟩
  · refine ⟨h, ?_⟩
    show (((e.at _).dn _).run _).2.2.byeS = false
    rw [En.run_byeS]
    exact hs
theorem packed_three (f : Fr) : 3 ≤ f.pack.length := by
  unfold Fr.pack packed
  have h1 := wire_len_pos f.st
  have h2 := wire_len_pos f.d.length
  simp
  omega
theorem packed_bye (n : Nat) : 4 ≤ (packed 7 0 (wire n)).length := by
  unfold packed
  have h1 := wire_len_pos 0
  have h2 := wire_len_pos (wire n).length
  have h3 := wire_len_pos n
  simp
  omega
theorem Wf.inRow {e : En} (h : Wf e) {x : Bs} (hx : x ∈ e.row) : ∃ f : Fr, x = f.pack := by
  obtain ⟨fs, h1, _⟩ := h.row
  rw [h1] at hx
  obtain ⟨f, _, hf⟩ := List.mem_map.1 hx
  exact ⟨f, hf.symm⟩
theorem drain_row1 {e : En} {s : Bs} {r : List Bs} (h : e.row = s :: r) (n : Nat) : (En.drain (n + 1) e).1 = s ++ (En.drain n { e with row := r }).1 := by
  have hd : e.drain1 = some (s, { e with row := r }) := by unfold En.drain1; rw [h]
  simp only [En.drain, hd]
/-- At least four bytes are sent. -/
theorem drain_four {e : En} (hw : Wf e) {r : List Bs} {n m : Nat} (h : e.row = r ++ [packed 7 0 (wire n)]) (hm : 2 ≤ m) : 4 ≤ (En.drain m e).1.length := by
  obtain ⟨m, rfl⟩ : ∃ k, m = k + 1 + 1 := ⟨m - 2, by omega⟩
  cases r with
  | nil =>
    rw [drain_row1 (s := packed 7 0 (wire n)) (r := []) (by rw [h]; rfl), List.length_append]
    have := packed_bye n
    omega
  | cons x r =>
    rw [drain_row1 (s := x) (r := r ++ [packed 7 0 (wire n)]) (by rw [h]; rfl), List.length_append]
    obtain ⟨fx, hx⟩ := hw.inRow (x := x) (by rw [h]; simp)
    have h1 := packed_three fx
    rw [← hx] at h1
    cases r with
    | nil =>
      rw [List.nil_append, drain_row1 (e := { e with row := _ }) (s := packed 7 0 (wire n)) (r := []) rfl, List.length_append]
      have := packed_bye n
      omega
    | cons y r =>
      rw [List.cons_append, drain_row1 (e := { e with row := _ }) (s := y) (r := r ++ [packed 7 0 (wire n)]) rfl, List.length_append]
      obtain ⟨fy, hy⟩ := hw.inRow (x := y) (by rw [h]; simp)
      have h2 := packed_three fy
      rw [← hy] at h2
      omega
theorem good_pack_len {f : Fr} (h : Good f.k f.st f.d) : f.pack.length ≤ 73 := by
  unfold Fr.pack packed
  have h1 := wire_len_le4 f.st h.st28
  have h2 := wire_len_le4 f.d.length (by have := h.len; omega)
  have h3 := h.len
  simp
  omega
/-- At most so many bytes are sent. -/
theorem drain_most : ∀ (n : Nat) {e : En}, Wf e → (En.drain n e).1.length ≤ 73 * n
  | 0, e, _ => by simp [En.drain]
  | n + 1, e, h => by
    cases hd : e.drain1 with
    | none => simp [En.drain, hd]
    | some p =>
      obtain ⟨s, e'⟩ := p
      obtain ⟨hw, f, hf, hg⟩ := h.drain1 hd
      have := drain_most n hw
      have h2 := good_pack_len hg
      simp only [En.drain, hd]
      rw [List.length_append, hf]
      omega
theorem En.run_two : ∀ (l : List Fr) (e : En), (e.run l).1.length ≤ 2 * l.length
  | [], e => by simp [En.run]
  | f :: l, e => by
    rw [En.run]
    have h1 := e.frame_two f
    split
    · simp only [List.length_cons]; omega
    · have h2 := En.run_two l (e.frame f).2.2
      rw [List.length_append, List.length_cons]
      omega
theorem all_len3 : ∀ (l : Bs), 3 * (all l).1.length ≤ l.length := by
  intro l
  induction h : l.length using Nat.strongRecOn generalizing l with
  | _ n ih =>
    subst h
    cases hx : nx l with
    | more => rw [all_more hx]; simp
    | err e => rw [all_err hx]; simp
    | frame k st d n =>
      have hb := nx_frame_bounds hx
      have := ih (l.drop n).length (by rw [List.length_drop]; omega) (l.drop n) rfl
      rw [all_frame hx]
      simp only [List.length_cons]
      rw [List.length_drop] at this
      omega
/-- Few events are told. -/
theorem En.feed_len (e : En) (b : Bs) : (e.feed b).1.length ≤ e.rest.length + b.length := by
  by_cases hd : e.down = 0
  · rw [e.feed_run b hd _ rfl _ rfl]
    have h1 := En.run_two (Lk.all (e.rest ++ b)).1 ((e.at (Lk.all (e.rest ++ b)).2.2).dn (Lk.all (e.rest ++ b)).2.1)
    have h2 := all_len3 (e.rest ++ b)
    rw [List.length_append] at h2
    simp only
    omega
  · rw [e.feed_down b hd]
    simp
theorem En.feed_none {e : En} (h : Wf e) : e.feed [] = ([], e) := by
  by_cases hd : e.down = 0
  · have ha : Lk.all (e.rest ++ []) = ([], 0, e.rest) := by rw [List.append_nil]; exact h.rest
    rw [e.feed_run [] hd _ ha _ rfl]
    show (([] : List Ev), ((((e.at e.rest).dn 0)).dn 0).falls) = ([], e)
    have h2 : (((e.at e.rest).dn 0)).dn 0 = e := by rw [← hd]; rfl
    rw [h2]
    unfold En.falls
    rw [if_neg (fun hx => hx.1 hd)]
  · rw [e.feed_down [] hd]
theorem En.drain_rest {a b : En} (n : Nat) (h : a.at [] = b.at []) : (En.drain n a).1 = (En.drain n b).1 := by
  have h1 := En.drain_at n a []
  have h2 := En.drain_at n b []
  rw [h] at h1
  rw [h1] at h2
  exact (Prod.mk.inj h2).1
end Go.Proofs.YtbkpdapagfjmmaaGreatDoor.Lk

/-
  Plain mathematics of the document: how great an event is. Imports nothing of the program.
-/
namespace Go.Proofs.YtbkpdapagfjmmaaGreatDoor.Lk

structure Ev.Ok (v : Ev) : Prop where
  hs : v.hs.length ≤ 6
  st : v.st ≤ 268435455
  n : v.n ≤ 268435455
  k : v.k ≤ 6
  t : v.t.length ≤ 64
theorem exR_len (B : Nat) (s : Bs) : ∀ (n : Nat) (L : List Hd) (p : Nat) (hs L2 : List Hd), exR B s n L p = .ok hs L2 → hs.length ≤ n
  | 0, L, p, hs, L2, h => by
    rw [exR] at h
    split at h
    · cases h; simp
    · cases h
  | n + 1, L, p, hs, L2, h => by
    rw [exR] at h
    split at h
    · cases h; simp
    · cases hp : partR B L s p with
      | bad q => rw [hp] at h; cases h
      | ok hl q =>
        rw [hp] at h
        simp only at h
        cases hx : exR B s n hl.2 q with
        | err a b => rw [hx] at h; cases h
        | ok hs2 L3 =>
          rw [hx] at h
          cases h
          have := exR_len B s n hl.2 q _ _ hx
          simp
          omega
theorem En.frame_ok (e : En) {f : Fr} (hg : Good f.k f.st f.d) : ∀ v ∈ (e.frame f).1, v.Ok := by
  have h1 := hg.st28
  have h2 := numOf_le f.d
  have h3 := hg.len
  intro v
  unfold En.frame
  split
  · unfold En.headF
    split
    · simp
    · split
      · simp
      · rename_i hs L hx
        have := exR_len _ _ _ _ _ _ _ hx
        split
        · simp
        · intro hv
          simp at hv
          subst hv
          exact ⟨this, h1, by simp, by simp, by simp⟩
  · split
    · unfold En.pieceF
      split
      · simp
      · split
        · simp
        · split
          · simp
          · split
            · intro hv
              rcases List.mem_append.1 hv with hv | hv
              · split at hv
                · simp at hv
                  subst hv
                  exact ⟨by simp, h1, by simp, by simp, h3⟩
                · cases hv
              · split at hv
                · simp at hv
                  subst hv
                  exact ⟨by simp, h1, by simp, by simp, by simp⟩
                · cases hv
            · simp
    · split
      · unfold En.resetF
        split
        · split
          · simp
          · intro hv
            simp at hv
            subst hv
            exact ⟨by simp, h1, h2, by simp, by simp⟩
        · split
          · simp
          · split
            · intro hv
              simp at hv
              subst hv
              exact ⟨by simp, h1, h2, by simp, by simp⟩
            · simp
      · split
        · simp
        · split
          · simp
          · split
            · intro hv
              simp at hv
              subst hv
              exact ⟨by simp, by simp, by simp, by simp, h3⟩
            · intro hv
              simp at hv
              subst hv
              exact ⟨by simp, by simp, h2, by simp, by simp⟩
theorem En.run_ok : ∀ (l : List Fr) (e : En), (∀ f ∈ l, Good f.k f.st f.d) → ∀ v ∈ (e.run l).1, v.Ok
  | [], e, _ => by simp [En.run]
  | f :: l, e, h => by
    have h1 := e.frame_ok (h f (by simp))
    have h2 := En.run_ok l (e.frame f).2.2 (fun g hg => h g (by simp [hg]))
    intro v hv
    rw [En.run] at hv
    split at hv
    · exact h1 v hv
    · rcases List.mem_append.1 hv with hv | hv
      · exact h1 v hv
      · exact h2 v hv
theorem En.feed_ok (e : En) (b : Bs) : ∀ v ∈ (e.feed b).1, v.Ok := by
  by_cases hd : e.down = 0
  · rw [e.feed_run b hd _ rfl _ rfl]
    exact En.run_ok _ _ (all_packs (e.rest ++ b)).1
  · rw [e.feed_down b hd]
    simp
end Go.Proofs.YtbkpdapagfjmmaaGreatDoor.Lk
