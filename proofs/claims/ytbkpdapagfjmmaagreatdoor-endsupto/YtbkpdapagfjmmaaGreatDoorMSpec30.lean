import Derived.Test.YtbkpdapagfjmmaaGreatDoorMK3Spec20
set_option linter.unusedVariables false
set_option maxRecDepth 100000
set_option maxHeartbeats 16000000
namespace Go.Proofs.YtbkpdapagfjmmaaGreatDoor.Lk
def zs (s : Bs) : Nat := (s.map fun x => if x = 0 then 2 else 1).sum
theorem zs_append (a b : Bs) : zs (a ++ b) = zs a + zs b := by simp [zs]
theorem zs_cons (x : UInt8) (s : Bs) : zs (x :: s) = (if x = 0 then 2 else 1) + zs s := by simp [zs]
theorem zs_nil : zs [] = 0 := rfl
theorem zs_ge : ∀ (s : Bs), s.length ≤ zs s
  | [] => Nat.le_refl _
  | x :: s => by
    have := zs_ge s
    rw [zs_cons, List.length_cons]
    split <;> omega
theorem zs_le : ∀ (s : Bs), zs s ≤ 2 * s.length
  | [] => Nat.le_refl _
  | x :: s => by
    have := zs_le s
    rw [zs_cons, List.length_cons]
    split <;> omega
theorem zs_wire (n : Nat) (h0 : 0 < n) : zs (wire n) = (wire n).length := by
  induction n using Nat.strongRecOn with
  | _ n ih =>
    by_cases h : n < 128
    · rw [wire_small n h, zs_cons, if_neg (fun hx => ?_)]
      · rfl
      · have : (UInt8.ofNat n).toNat = 0 := by rw [hx]; rfl
        simp at this
        omega
    · rw [wire_big n h, zs_cons, List.length_cons, ih (n / 128) (by omega) (by omega), if_neg (fun hx => ?_)]
      · omega
      · have : (UInt8.ofNat (128 + n % 128)).toNat = 0 := by rw [hx]; rfl
        simp at this
        omega
theorem zs_wire0 : zs (wire 0) = 2 := by rw [wire_small 0 (by omega)]; rfl
theorem wire_ge2 (n : Nat) (h : ¬ n < 128) : 2 ≤ (wire n).length := by
  rw [wire_big n h, List.length_cons]
  have := wire_len_pos (n / 128)
  omega
theorem zs_packed (k : Nat) (hk : 0 < k) (hk7 : k ≤ 7) (st : Nat) (d : Bs) : zs (packed k st d) = 1 + zs (wire st) + zs (wire d.length) + zs d := by
  unfold packed
  rw [zs_cons, zs_append, zs_append, if_neg (fun hx => ?_)]
  · simp only [Int.toNat_natCast]; omega
  · have : (UInt8.ofNat (k : Int).toNat).toNat = 0 := by rw [hx]; rfl
    simp at this
    omega
theorem zs_packed0 (st : Nat) (d : Bs) : zs (packed (0 : Nat) st d) = 2 + zs (wire st) + zs (wire d.length) + zs d := by
  unfold packed
  rw [zs_cons, zs_append, zs_append]
  simp
  omega
theorem zs_num (k : Nat) (hk : 0 < k) (hk7 : k ≤ 7) (st n : Nat) (hn : n ≤ 268435455) : zs (packed k st (wire n)) = 2 + zs (wire st) + zs (wire n) := by
  have h1 := wire_len_le4 n hn
  have h2 := wire_len_pos n
  rw [zs_packed k hk hk7, zs_wire _ h2, wire_len1 _ (by omega)]
  omega
theorem zs_wire4 (n : Nat) (h : n ≤ 268435455) : zs (wire n) ≤ 4 := by
  have := wire_len_le4 n h
  by_cases h0 : n = 0
  · subst h0; rw [zs_wire0]; omega
  · rw [zs_wire n (by omega)]; exact this
theorem zs_num_le (k : Nat) (hk : 0 < k) (hk7 : k ≤ 7) (st n : Nat) (hs : st ≤ 268435455) (hn : n ≤ 268435455) : zs (packed k st (wire n)) ≤ 10 := by
  rw [zs_num k hk hk7 st n hn]
  have := zs_wire4 n hn
  have := zs_wire4 st hs
  omega
def zrow (l : List Bs) : Nat := (l.map zs).sum
def pz (o : Ot) : Nat := (if o.opn = true ∧ 0 < o.held then 2 else 0) + (if o.id ≤ 127 then o.cr else 0)
def En.zm (e : En) : Nat := zrow e.row + 2 * (e.own.map oweO).sum + (e.oth.map pz).sum + 200 * (64 - e.oth.length)
theorem zrow_append (a b : List Bs) : zrow (a ++ b) = zrow a + zrow b := by simp [zrow]
theorem zrow_one (s : Bs) : zrow [s] = zs s := by simp [zrow]
theorem send_zm (e : En) (k st : Nat) (d : Bs) : (e.send k st d).zm = e.zm + zs (packed k st d) := by
  unfold En.send En.zm
  simp only [zrow_append, zrow_one]
  omega
theorem back_zm (e : En) (n : Nat) (hn : n ≤ 200) : (e.back n).zm ≤ e.zm + (if 0 < n then 4 + (wire n).length else 0) := by
  unfold En.back
  split
  · rename_i h
    rw [send_zm, zs_num 4 (by omega) (by omega) 0 n (by omega), zs_wire0, zs_wire n h]
    show e.zm + _ ≤ _
    omega
  · simp
theorem frame_zm {e : En} (hw : Wf e) {f : Fr} (hg : Good f.k f.st f.d) : (e.frame f).2.2.zm ≤ e.zm + zs f.pack := by
  have hp0 : zs f.pack = zs (packed f.k f.st f.d) := rfl
  have hz1 := zs_ge (wire f.st)
  have hz2 := zs_ge (wire f.d.length)
  have hz3 := zs_ge f.d
  have hp1 := wire_len_pos f.st
  have hp2 := wire_len_pos f.d.length
  have hwin := hw.win2
  unfold En.frame
  split
  · rename_i hk
    have hp : zs f.pack = 2 + zs (wire f.st) + zs (wire f.d.length) + zs f.d := by rw [hp0, hk, zs_packed0]
    unfold En.headF
    split
    · show e.zm ≤ _; omega
    · rename_i hid
      have hid1 : f.st = 2 * e.oth.length + 2 - e.side := by omega
      have hside := hw.side
      have hrv : ∀ o : Ot, o.id = f.st → o.cr = e.win → o.held = 0 → ((e.oth ++ [o]).map pz).sum + 200 * (64 - (e.oth ++ [o]).length) ≤ (e.oth.map pz).sum + 200 * (64 - e.oth.length) := by
        intro o h1 h2 h3
        have hq : pz o = if f.st ≤ 127 then e.win else 0 := by
          unfold pz
          rw [h1, h2, h3]
          simp
        rw [List.map_append, List.sum_append, List.length_append]
        simp only [List.map_cons, List.map_nil, List.sum_cons, List.sum_nil, List.length_cons, List.length_nil, hq]
        split <;> omega
      split
      · show e.zm ≤ _; omega
      · split
        · rename_i hs L hx hb
          have hr := hrv ⟨f.st, e.win, 0, false, true⟩ rfl rfl rfl
          rw [send_zm, zs_num 3 (by omega) (by omega) f.st 0 (by omega), zs_wire0]
          have hd2 : 2 ≤ zs (wire f.d.length) + zs f.d := by
            by_cases h0 : f.d.length = 0
            · rw [h0, zs_wire0]; omega
            · omega
          show zrow e.row + 2 * (e.own.map oweO).sum + ((e.oth ++ [(⟨f.st, e.win, 0, false, true⟩ : Ot)]).map pz).sum + 200 * (64 - (e.oth ++ [(⟨f.st, e.win, 0, false, true⟩ : Ot)]).length) + _ ≤ _
          unfold En.zm
          omega
        · have hr := hrv ⟨f.st, e.win, 0, true, false⟩ rfl rfl rfl
          show zrow e.row + 2 * (e.own.map oweO).sum + ((e.oth ++ [(⟨f.st, e.win, 0, true, false⟩ : Ot)]).map pz).sum + 200 * (64 - (e.oth ++ [(⟨f.st, e.win, 0, true, false⟩ : Ot)]).length) ≤ _
          unfold En.zm
          omega
  · rename_i hk0
    have hp : zs f.pack = 1 + zs (wire f.st) + zs (wire f.d.length) + zs f.d := by rw [hp0, zs_packed f.k (by omega) hg.k7]
    have oset : ∀ (i : Nat) (o o' : Ot) (r : Nat), e.oth[i]? = some o → ({ e with oth := e.oth.set i o', room := r } : En).zm + pz o = e.zm + pz o' := by
      intro i o o' r ho
      have := sum_set pz e.oth i o o' ho
      unfold En.zm
      simp only [List.length_set]
      omega
    split
    · rename_i hk
      have hgl : f.d.length ≤ 16 := by
        have := hg.length
        rcases hk with hk | hk <;> rw [hk] at this <;> simp [lengthFits] at this <;> omega
      unfold En.pieceF
      split
      · show e.zm ≤ _; omega
      · rename_i i o hx
        obtain ⟨hix, ho⟩ := bind_map_some hx
        obtain ⟨o', ho', hid⟩ := othIx_some hix
        simp only at ho ho'
        have hid : o.id = f.st := by
          rw [ho] at ho'
          cases ho'
          omega
        split
        · show e.zm ≤ _; omega
        · split
          · show e.zm ≤ _; omega
          · rename_i hcr
            split
            · have := oset i o { o with cr := o.cr - f.d.length, held := o.held + f.d.length, opn := decide (f.k ≠ 2), drp := o.drp && decide (f.k ≠ 2) } (e.room - f.d.length) ho
              have h1 : pz { o with cr := o.cr - f.d.length, held := o.held + f.d.length, opn := decide (f.k ≠ 2), drp := o.drp && decide (f.k ≠ 2) } ≤ pz o + 2 := by
                unfold pz
                simp only
                split <;> split <;> split <;> omega
              dsimp only
              omega
            · rename_i hop
              have := oset i o { o with cr := o.cr - f.d.length, drp := decide (f.k ≠ 2) } (e.room - f.d.length) ho
              have h1 : pz { o with cr := o.cr - f.d.length, drp := decide (f.k ≠ 2) } + (if f.st ≤ 127 then f.d.length else 0) = pz o := by
                unfold pz
                simp only [hid]
                split <;> split <;> omega
              have hb := back_zm ({ e with oth := e.oth.set i { o with cr := o.cr - f.d.length, drp := decide (f.k ≠ 2) }, room := e.room - f.d.length } : En) f.d.length (by omega)
              have hwl : (wire f.d.length).length = 1 := wire_len1 _ (by omega)
              dsimp only
              by_cases hst : f.st ≤ 127
              · rw [if_pos hst] at h1
                split at hb <;> omega
              · rw [if_neg hst] at h1
                have := wire_ge2 f.st (by omega)
                split at hb <;> omega
    · split
      · rename_i hk
        have hgl : 1 ≤ f.d.length := by
          have := hg.length
          rw [hk] at this
          simp [lengthFits] at this
          omega
        unfold En.resetF
        split
        · rename_i i o hx
          obtain ⟨_, ho⟩ := bind_map_some hx
          split
          · show e.zm ≤ _; omega
          · have := sum_set oweO e.own i o { o with done := true } ho
            have h1 : oweO { o with done := true } = 0 := rfl
            unfold En.zm
            simp only
            omega
        · split
          · show e.zm ≤ _; omega
          · rename_i i o hx
            obtain ⟨_, ho⟩ := bind_map_some hx
            split
            · rename_i hop
              dsimp only at ho ⊢
              have hh := hw.held ho
              have := oset i o { o with opn := false, held := 0 } e.room ho
              have h1 : pz { o with opn := false, held := 0 } + (if 0 < o.held then 2 else 0) = pz o := by
                unfold pz
                simp only [hop]
                split <;> simp_all <;> omega
              have hb := back_zm ({ e with oth := e.oth.set i { o with opn := false, held := 0 } } : En) o.held hh
              have hwl : (wire o.held).length ≤ 2 := wire_len_le2 _ (by omega)
              split at hb
              · rename_i hpos
                rw [if_pos hpos] at h1
                omega
              · rename_i hpos
                rw [if_neg hpos] at h1
                omega
            · have := oset i o { o with drp := false } e.room ho
              have h1 : pz { o with drp := false } = pz o := rfl
              dsimp only
              omega
      · split
        · unfold En.creditF
          split
          · split
            · show e.zm ≤ _; omega
            · show e.zm ≤ _; omega
          · split
            · show e.zm ≤ _; omega
            · rename_i i o hx
              obtain ⟨_, ho⟩ := bind_map_some hx
              split
              · show e.zm ≤ _; omega
              · split
                · show e.zm ≤ _; omega
                · have := sum_set oweO e.own i o { o with cr := o.cr + numOf f.d } ho
                  have h1 : oweO { o with cr := o.cr + numOf f.d } = oweO o := rfl
                  unfold En.zm
                  simp only
                  omega
        · split
          · rw [send_zm, zs_packed 6 (by omega) (by omega), zs_wire0]
            have : 2 ≤ zs (wire f.st) := by
              by_cases h0 : f.st = 0
              · rw [h0, zs_wire0]; omega
              · have := hg.stream
                rename_i hk
                rw [hk] at this
                simp [streamFits] at this
                omega
            omega
          · split
            · show e.zm ≤ _; omega
            · show e.zm ≤ _; omega
theorem zs_packAll (f : Fr) (l : List Fr) : zs (packAll (f :: l)) = zs f.pack + zs (packAll l) := by
  have : packAll (f :: l) = f.pack ++ packAll l := rfl
  rw [this, zs_append]
theorem zs_all : ∀ (l : Bs), zs (Lk.all l).2.2 + zs (packAll (Lk.all l).1) ≤ zs l := by
  intro l
  induction h : l.length using Nat.strongRecOn generalizing l with
  | _ n ih =>
    subst h
    cases hx : nx l with
    | more => rw [all_more hx]; simp [packAll, zs_nil]
    | err e => rw [all_err hx]; simp [packAll, zs_nil]
    | frame k st d n =>
      have hb := nx_frame_bounds hx
      have hg := nx_good hx
      have := ih (l.drop n).length (by rw [List.length_drop]; omega) (l.drop n) rfl
      rw [all_frame hx]
      have hp : zs (packAll (⟨k, st, d⟩ :: (Lk.all (l.drop n)).1)) = zs (l.take n) + zs (packAll (Lk.all (l.drop n)).1) := by
        rw [zs_packAll]
        show zs (packed k st d) + _ = _
        rw [hg.2]
      have hl : zs l = zs (l.take n) + zs (l.drop n) := by rw [← zs_append, List.take_append_drop]
      simp only [hp]
      omega
theorem run_zm : ∀ (l : List Fr) {e : En}, Wf e → (∀ f ∈ l, Good f.k f.st f.d) → (e.run l).2.2.zm ≤ e.zm + zs (packAll l)
  | [], e, _, _ => by
    show e.zm ≤ e.zm + 0
    omega
  | f :: l, e, hw, h => by
    have h1 := frame_zm hw (h f (by simp))
    have h2 := run_zm l (hw.frame (h f (by simp))) (fun g hg => h g (by simp [hg]))
    rw [En.run, zs_packAll]
    split
    · omega
    · simp only
      omega
theorem bye_zm {e : En} (hw : Wf e) : e.bye.zm ≤ e.zm + 10 := by
  show (e.send 7 0 (wire e.lastOth)).zm ≤ _
  have h1 := zs_num_le 7 (by omega) (by omega) 0 e.lastOth (by omega) hw.lastOth
  rw [send_zm]
  omega
theorem falls_zm {e : En} (hw : Wf e) : e.falls.zm ≤ e.zm + 10 := by
  unfold En.falls
  split
  · exact bye_zm hw
  · omega
theorem feed_zm {e : En} (hw : Wf e) (b : Bs) : (e.feed b).2.zm + zs (e.feed b).2.rest ≤ e.zm + zs e.rest + zs b + 10 := by
  by_cases hd : e.down = 0
  · obtain ⟨hg, _⟩ := all_packs (e.rest ++ b)
    have hres := all_rest (e.rest ++ b)
    have hrl := zs_all (e.rest ++ b)
    rw [zs_append] at hrl
    rw [e.feed_run b hd _ rfl _ rfl]
    generalize Lk.all (e.rest ++ b) = A at *
    obtain ⟨fs, flt, rest⟩ := A
    simp only at hg hres hrl ⊢
    have hw0 : Wf ((e.at rest).dn flt) := (hw.at hres).withDown flt
    have h1 := run_zm fs hw0 hg
    have h2 := run_rest fs ((e.at rest).dn flt)
    have hwr := Wf.run fs hw0 hg
    generalize ((e.at rest).dn flt).run fs = R at *
    have h5 := falls_rest (R.2.2.dn (if R.2.1 = 0 then flt else R.2.1))
    rw [h5]
    have h6 : (R.2.2.dn (if R.2.1 = 0 then flt else R.2.1)).rest = rest := h2
    have h10 : ((e.at rest).dn flt).zm = e.zm := rfl
    have h3' : (R.2.2.dn (if R.2.1 = 0 then flt else R.2.1)).falls.zm ≤ R.2.2.zm + 10 := falls_zm (hwr.withDown (if R.2.1 = 0 then flt else R.2.1))
    rw [h10] at h1
    rw [h6]
    omega
  · rw [e.feed_down b hd]
    show e.zm + zs e.rest ≤ _
    omega
theorem pingC_zm (e : En) (t : Bs) : (e.pingC t).2.zm ≤ e.zm + 400 := by
  unfold En.pingC
  split
  · show e.zm ≤ _; omega
  · split
    · show e.zm ≤ _; omega
    · rename_i h
      show (e.send 5 0 t).zm ≤ _
      rw [send_zm, zs_packed 5 (by omega) (by omega), zs_wire0]
      have h8 : t.length = 8 := by omega
      have := zs_le t
      rw [h8, zs_wire 8 (by omega), wire_len1 8 (by omega)]
      omega
theorem byeC_zm {e : En} (hw : Wf e) : e.byeC'.2.zm ≤ e.zm + 400 := by
  unfold En.byeC'
  split
  · show e.zm ≤ _; omega
  · split
    · show e.zm ≤ _; omega
    · have := bye_zm hw
      simp only
      omega
theorem submitC_zm (e : En) (l : List Hd) (body : Bs) : (e.submitC l body).2.zm ≤ e.zm + 5000 := by
  unfold En.submitC
  split
  · show e.zm ≤ _; omega
  · split
    · show e.zm ≤ _; omega
    · split
      · show e.zm ≤ _; omega
      · split
        · show e.zm ≤ _; omega
        · rename_i hl
          split
          · show e.zm ≤ _; omega
          · rename_i hf
            show (En.send _ 0 e.nextId _).zm ≤ _
            rw [send_zm]
            have h1 := zs_le (packed (0 : Nat) e.nextId (squeeze 100 e.out l).1)
            rw [packed_len] at h1
            have h4 := wire_len_le4 e.nextId (by omega)
            have h2 : (wire (squeeze 100 e.out l).1.length).length = 1 := wire_len1 _ (by omega)
            have h3 : ([(⟨e.nextId, body, e.win, false⟩ : Ow)].map oweO).sum ≤ 2106 := by
              simp [oweO]
              omega
            show zrow e.row + 2 * ((e.own ++ [(⟨e.nextId, body, e.win, false⟩ : Ow)]).map oweO).sum + (e.oth.map pz).sum + 200 * (64 - e.oth.length) + _ ≤ _
            rw [List.map_append, List.sum_append]
            unfold En.zm
            simp only [Int.toNat_natCast] at *
            omega
theorem consumeC_zm {e : En} (hw : Wf e) (st n : Int) : (e.consumeC st n).2.zm ≤ e.zm + 400 := by
  unfold En.consumeC
  split
  · show e.zm ≤ _; omega
  · split
    · show e.zm ≤ _; omega
    · split
      · show e.zm ≤ _; omega
      · rename_i i hi
        split
        · show e.zm ≤ _; omega
        · rename_i o ho
          split
          · show e.zm ≤ _; omega
          · rename_i hh
            have hheld := hw.held ho
            have hid := (hw.oth i o ho).id28
            have hs := sum_set pz e.oth i o (o.eat n.toNat) ho
            have hpo : pz (o.eat n.toNat) ≤ pz o + 202 := by
              unfold pz Ot.eat
              simp only
              repeat' split
              all_goals omega
            have hm : ({ e with oth := e.oth.set i (o.eat n.toNat), room := e.room + n.toNat } : En).zm ≤ e.zm + 202 := by
              unfold En.zm
              simp only [List.length_set]
              omega
            have hn : n.toNat ≤ 268435455 := by omega
            have h1 := zs_num_le 4 (by omega) (by omega) 0 n.toNat (by omega) hn
            have h2 := zs_num_le 4 (by omega) (by omega) o.id n.toNat hid hn
            simp only
            split
            · rw [send_zm, send_zm]
              omega
            · rw [send_zm]
              omega
theorem resetC_zm {e : En} (hw : Wf e) (st code : Int) : (e.resetC st code).2.zm ≤ e.zm + 400 := by
  unfold En.resetC
  split
  · show e.zm ≤ _; omega
  · split
    · show e.zm ≤ _; omega
    · rename_i hc
      split
      · rename_i i o hx
        have ho : e.own[i]? = some o := by
          cases hy : ownIx e.own st with
          | none => rw [hy] at hx; cases hx
          | some j =>
            rw [hy] at hx
            simp only [Option.bind_some] at hx
            cases hz : e.own[j]? with
            | none => rw [hz] at hx; cases hx
            | some q =>
              rw [hz] at hx
              simp only [Option.bind_some] at hx
              split at hx
              · cases hx
              · cases hx; exact hz
        have hs := sum_set oweO e.own i o { o with done := true } ho
        have h1 : oweO { o with done := true } = 0 := rfl
        have h2 := zs_num_le 3 (by omega) (by omega) o.id code.toNat (hw.own i o ho).id28 (by omega)
        rw [send_zm]
        have hm : ({ e with own := e.own.set i { o with done := true } } : En).zm ≤ e.zm := by
          unfold En.zm
          simp only
          omega
        omega
      · split
        · rename_i i o hx
          have ho : e.oth[i]? = some o := by
            cases hy : othIx e.oth st with
            | none => rw [hy] at hx; cases hx
            | some j =>
              rw [hy] at hx
              simp only [Option.bind_some] at hx
              cases hz : e.oth[j]? with
              | none => rw [hz] at hx; cases hx
              | some q =>
                rw [hz] at hx
                simp only [Option.bind_some] at hx
                split at hx
                · cases hx; exact hz
                · cases hx
          have hs := sum_set pz e.oth i o { o with opn := false, drp := true, held := 0 } ho
          have h1 : pz { o with opn := false, drp := true, held := 0 } ≤ pz o := by
            unfold pz
            simp
          have h2 := zs_num_le 3 (by omega) (by omega) o.id code.toNat (hw.oth i o ho).id28 (by omega)
          have hh := hw.held ho
          have hb := back_zm (({ e with oth := e.oth.set i { o with opn := false, drp := true, held := 0 } } : En).send 3 o.id (wire code.toNat)) o.held hh
          rw [send_zm] at hb
          have hm : ({ e with oth := e.oth.set i { o with opn := false, drp := true, held := 0 } } : En).zm ≤ e.zm := by
            unfold En.zm
            simp only [List.length_set]
            omega
          have hwl : (wire o.held).length ≤ 2 := wire_len_le2 _ (by omega)
          have hif : (if 0 < o.held then 4 + (wire o.held).length else 0) ≤ 6 := by split <;> omega
          dsimp only
          omega
        · show e.zm ≤ _; omega
theorem drain1_zm {e e' : En} {s : Bs} (hw : Wf e) (h : e.drain1 = some (s, e')) : zs s + e'.zm ≤ e.zm := by
  have hq := drain1_mass hw h
  unfold En.drain1 at h
  split at h
  · rename_i s' r hr
    cases h
    unfold En.zm
    rw [hr]
    simp only [zrow, List.map_cons, List.sum_cons]
    omega
  · rename_i hr
    split at h
    · cases h
    · split at h
      · cases h
      · rename_i i hi
        obtain ⟨o, ho, hmay⟩ := next_may hi
        rw [ho] at h
        have h' : e.bodyOf i o = (s, e') := Option.some.inj h
        obtain ⟨rfl, rfl⟩ : (e.bodyOf i o).1 = s ∧ (e.bodyOf i o).2 = e' := by rw [h']; exact ⟨rfl, rfl⟩
        have h1 := zs_le (e.bodyOf i o).1
        have h2 : (e.bodyOf i o).2.row = e.row := rfl
        have h3 : (e.bodyOf i o).2.oth = e.oth := rfl
        unfold En.mass at hq
        unfold En.zm
        rw [h2, h3] at hq ⊢
        omega
theorem drain_zm : ∀ (n : Nat) {e : En}, Wf e → zs (En.drain n e).1 + (En.drain n e).2.zm ≤ e.zm
  | 0, e, _ => by simp [En.drain, zs_nil]
  | n + 1, e, hw => by
    cases hd : e.drain1 with
    | none => simp [En.drain, hd, zs_nil]
    | some p =>
      obtain ⟨s, e'⟩ := p
      have h1 := drain1_zm hw hd
      have h2 := drain_zm n (hw.drain1 hd).1
      simp only [En.drain, hd]
      rw [zs_append]
      omega
theorem new_zm (s w : Nat) : (En.new s w).zm = 12800 := by simp [En.new, En.zm, zrow]
theorem back_row1 (e : En) (n : Nat) : (e.back n).row.length ≤ e.row.length + 1 := by
  unfold En.back
  split
  · show (e.row ++ [_]).length ≤ _; simp
  · omega
theorem frame_row (e : En) (f : Fr) : (e.frame f).2.2.row.length ≤ e.row.length + 1 ∧ (e.frame f).1.length ≤ 2 := by
  unfold En.frame
  split
  · unfold En.headF
    split
    · exact ⟨by show e.row.length ≤ _; omega, by simp⟩
    · split
      · exact ⟨by show e.row.length ≤ _; omega, by simp⟩
      · split
        · exact ⟨by show (e.row ++ [_]).length ≤ _; simp, by simp⟩
        · exact ⟨by show e.row.length ≤ _; omega, by simp⟩
  · split
    · unfold En.pieceF
      split
      · exact ⟨by show e.row.length ≤ _; omega, by simp⟩
      · split
        · exact ⟨by show e.row.length ≤ _; omega, by simp⟩
        · split
          · exact ⟨by show e.row.length ≤ _; omega, by simp⟩
          · split
            · refine ⟨by show e.row.length ≤ _; omega, ?_⟩
              rw [List.length_append]
              split <;> split <;> simp
            · exact ⟨back_row1 _ _, by simp⟩
    · split
      · unfold En.resetF
        split
        · split
          · exact ⟨by show e.row.length ≤ _; omega, by simp⟩
          · exact ⟨by show e.row.length ≤ _; omega, by simp⟩
        · split
          · exact ⟨by show e.row.length ≤ _; omega, by simp⟩
          · split
            · exact ⟨back_row1 _ _, by simp⟩
            · exact ⟨by show e.row.length ≤ _; omega, by simp⟩
      · split
        · refine ⟨?_, by simp⟩
          unfold En.creditF
          repeat' split
          all_goals (show e.row.length ≤ _; omega)
        · split
          · exact ⟨by show (e.row ++ [_]).length ≤ _; simp, by simp⟩
          · split
            · exact ⟨by show e.row.length ≤ _; omega, by simp⟩
            · exact ⟨by show e.row.length ≤ _; omega, by simp⟩
theorem row_zrow {e : En} (hw : Wf e) : e.row.length ≤ e.zm := by
  have : ∀ l : List Bs, (∀ s ∈ l, 0 < s.length) → l.length ≤ zrow l := by
    intro l
    induction l with
    | nil => intro _; simp [zrow]
    | cons s l ih =>
      intro h
      have h1 := ih (fun x hx => h x (by simp [hx]))
      have h2 := h s (by simp)
      have h3 := zs_ge s
      simp only [zrow, List.map_cons, List.sum_cons, List.length_cons] at *
      omega
  have h := this e.row (fun s hs => by
    obtain ⟨fs, h1, _⟩ := hw.row
    rw [h1] at hs
    obtain ⟨f, _, rfl⟩ := List.mem_map.1 hs
    unfold Fr.pack packed
    simp)
  unfold En.zm
  omega
end Go.Proofs.YtbkpdapagfjmmaaGreatDoor.Lk
