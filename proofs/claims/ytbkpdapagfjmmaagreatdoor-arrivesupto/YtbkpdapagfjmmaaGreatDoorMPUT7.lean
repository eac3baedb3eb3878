import Derived.Test.YtbkpdapagfjmmaaGreatDoorMPSPT
import Derived.Test.YtbkpdapagfjmmaaGreatDoorProg
import Derived.Test.YtbkpdapagfjmmaaGreatDoorMSpec5Z1
import Derived.Test.YtbkpdapagfjmmaaGreatDoorMM1Spec4
import Derived.Test.YtbkpdapagfjmmaaGreatDoorMPGW3
import Derived.Laws.EntriesVeiled
import Derived.Deep.RegionHeld3
import Derived.Deep.DrawnRows
/-
  Walks: Drain.
-/
namespace Go.Proofs.YtbkpdapagfjmmaaGreatDoor
open Go.RowKit

def ecDown (e : Lk.En) (d : PD) : EC := ⟨⟨#[]⟩, (e.down : Int), .nilFunc, 0, nilS, 0, 0, 0, 0, nilS, .nilFunc, 0, nilS, 0, 0, 0, .map none, d.rs, false, false⟩
/-- An end that is down: what waits to be sent, and why. -/
structure Fallen (w : World) (b : Nat) (e : Lk.En) (d : PD) : Prop where
  rw : Rw w b (ecDown e d) d.fs
  rowe : e.row = d.fs.map Lk.Fr.pack
  good : ∀ f ∈ d.fs, Lk.Good f.k f.st f.d
  dn : e.down ≠ 0
  none : d.ov = nilS ∧ d.iv = nilS ∧ d.sv = nilS ∧ d.ps = [] ∧ d.mb = b ∧ ∀ k, d.ins k = Option.none
  wf : Lk.Wf e
  pos : ∀ i, foot b d i → 0 < i
theorem Fallen.foot {w : World} {b : Nat} {e : Lk.En} {d : PD} (h : Fallen w b e d) {i : Nat} (hi : foot b d i) : i = b ∨ i ∈ d.rs := by
  obtain ⟨h1, h2, h3, h4, h5, h6⟩ := h.none
  rcases hi with hi | hi | hi | hi | hi | hi | hi | ⟨k, hi⟩
  · exact .inl hi
  · rw [h1] at hi; cases hi
  · rw [h2] at hi; cases hi
  · rw [h3] at hi; cases hi
  · rw [h4] at hi; cases hi
  · exact .inr hi
  · exact .inl (hi.trans h5)
  · rw [h6] at hi; cases hi
/-- An end of the program's. -/
def PEnd (w : World) (b : Nat) (e : Lk.En) (d : PD) : Prop := (Live w b e d ∧ e.down = 0) ∨ Fallen w b e d
theorem PEnd.wf {w : World} {b : Nat} {e : Lk.En} {d : PD} (h : PEnd w b e d) : Lk.Wf e := by
  rcases h with ⟨h, _⟩ | h
  · exact h.wf
  · exact h.wf
theorem PEnd.pos {w : World} {b : Nat} {e : Lk.En} {d : PD} (h : PEnd w b e d) : ∀ i, foot b d i → 0 < i := by
  rcases h with ⟨h, _⟩ | h
  · exact h.pos
  · exact h.pos
theorem PEnd.lt {w : World} {b : Nat} {e : Lk.En} {d : PD} (h : PEnd w b e d) : ∀ i, foot b d i → i < w.heap.size := by
  rcases h with ⟨h, _⟩ | h
  · exact h.lt
  · intro i hi
    rcases h.foot hi with rfl | hi
    · exact h.rw.lt
    · exact h.rw.row.lt i hi
theorem PEnd.only {S : Nat → Prop} {w w' : World} {b : Nat} {e : Lk.En} {d : PD} (h : PEnd w b e d) (k : Only S w w') (hn : ∀ i, foot b d i → ¬ S i) : PEnd w' b e d := by
  rcases h with ⟨h, hdn⟩ | h
  · exact .inl ⟨h.only k hn, hdn⟩
  · exact .inr ⟨h.rw.only k (hn b (.inl rfl)) (fun r hr => hn r (.inr (.inr (.inr (.inr (.inr (.inl hr))))))), h.rowe, h.good, h.dn, h.none, h.wf, h.pos⟩
def PPost (w : World) (b : Nat) (d : PD) (e' : Lk.En) (w' : World) : Prop := ∃ d', PEnd w' b e' d' ∧ (∀ i, foot b d' i → foot b d i ∨ w.heap.size ≤ i) ∧ Only (foot b d) w w'
theorem LPost.toP {w w' : World} {b : Nat} {d : PD} {e' : Lk.En} (h : LPost w b d e' w') (hdn : e'.down = 0) : PPost w b d e' w' := by
  obtain ⟨d', h1, h2, h3⟩ := h
  exact ⟨d', .inl ⟨h1, hdn⟩, h2, h3⟩
theorem PPost.same {w : World} {b : Nat} {e : Lk.En} {d : PD} (h : PEnd w b e d) : PPost w b d e w := ⟨d, h, fun _ hi => .inl hi, Only.refl _ _⟩

/-- What a round of Drain's leaves: nothing new is kept. -/
def QPost (w : World) (b g B : Nat) (d : PD) (e' : Lk.En) (xs : Lk.Bs) (w' : World) : Prop := ∃ d', PEnd w' b e' d' ∧ (∀ i, foot b d' i → foot b d i) ∧ Gath w' g B xs ∧ Only (fun i => foot b d i ∨ B ≤ i) w w'
theorem takeFallen (b g B : Nat) (e : Lk.En) (d : PD) (s : Lk.Bs) (r : List Lk.Bs) (xs : Lk.Bs) (w : World) (hL : Fallen w b e d) (hrow : e.row = s :: r) (hG : Gath w g B xs) (hg : B ≤ g) (hB : ∀ i, foot b d i → i < B) (hl : xs.length ≤ 2 ^ 44) (hW : Lk.Wf { e with row := r }) :
    Calls Tryz.prog 37 #[.pointer (some ⟨b, 18, none⟩), gathV g] w fun q w' => q = .returned (.bool true) ∧ QPost w b g B d { e with row := r } (xs ++ s) w' := by
  have hrw := hL.rw
  have hre := hL.rowe
  rw [hrow] at hre
  rcases hrw.row.empty with ⟨h, _⟩ | ⟨f, fs', r0, rs', hf, hr, _, _, _⟩
  · have h' : d.fs = [] := h
    rw [h'] at hre
    simp at hre
  have hf' : d.fs = f :: fs' := hf
  have hr' : d.rs = r0 :: rs' := hr
  rw [hf'] at hre
  simp only [List.map_cons, List.cons.injEq] at hre
  have hgf := hL.good f (by rw [hf']; simp)
  have hC := hrw.row
  rw [hf] at hC
  have hC' : Chain w (firstV (r0 :: rs')) (lastV (r0 :: rs')) (f :: fs') (r0 :: rs') := by
    have := hC
    rw [show (ecDown e d).rs = d.rs from rfl, hr'] at this
    exact this
  have hrsB : ∀ x ∈ r0 :: rs', x < B := fun x hx => hB x (.inr (.inr (.inr (.inr (.inr (.inl (by rw [hr']; exact hx)))))))
  refine (takeRow_some b 18 g r0 B 101 (ecDown e d).cells f fs' rs' xs w hrw.blk (Nat.ne_of_beq_eq_false rfl) (by rw [← hr']; rfl) (by rw [← hr']; rfl) hC' hG hg (hB b (.inl rfl)) hrsB hl hgf.k7 hgf.st28 hgf.len).mono ?_
  rintro q w' ⟨rfl, hI, hCh, hG', hO⟩
  have hR' : Rw w' b { ecDown e d with rs := rs' } fs' := ⟨hI, hCh⟩
  have hsub : ∀ i, foot b { d with rs := rs', fs := fs' } i → foot b d i := by
    intro i hi
    rcases hi with hi | hi | hi | hi | hi | hi | hi | hi
    · exact .inl hi
    · exact .inr (.inl hi)
    · exact .inr (.inr (.inl hi))
    · exact .inr (.inr (.inr (.inl hi)))
    · exact .inr (.inr (.inr (.inr (.inl hi))))
    · exact .inr (.inr (.inr (.inr (.inr (.inl (by rw [hr']; exact List.mem_cons_of_mem _ hi))))))
    · exact .inr (.inr (.inr (.inr (.inr (.inr (.inl hi))))))
    · exact .inr (.inr (.inr (.inr (.inr (.inr (.inr hi))))))
  refine ⟨rfl, { d with rs := rs', fs := fs' }, .inr ⟨hR', hre.2, fun f' hf'' => hL.good f' (by rw [hf']; exact List.mem_cons_of_mem _ hf''), hL.dn, hL.none, hW, fun i hi => hL.pos i (hsub i hi)⟩, hsub, by rw [hre.1]; exact hG', hO.mono (fun i hi => ?_)⟩
  rcases hi with hi | hi
  · exact .inl (.inl hi)
  · exact .inr hi
theorem rowNil {w : World} {b g : Nat} {c : EC} {fs : List Lk.Fr} (hR : Rw w b c fs) {row : List Lk.Bs} (he : row = fs.map Lk.Fr.pack) (h0 : row = []) : Calls Tryz.prog 37 #[.pointer (some ⟨b, 18, none⟩), gathV g] w fun q w' => q = .returned (.bool false) ∧ w' = w := by
  rw [h0] at he
  have hfs : fs = [] := by
    cases fs with
    | nil => rfl
    | cons a t => simp at he
  rcases hR.row.empty with ⟨_, hr, _⟩ | ⟨f, fs', r0, rs', hf, _⟩
  · exact takeRow_none b 18 g 101 c.cells w hR.blk (by rw [show c.cells[18]? = some (firstV c.rs) from rfl, hr]; rfl)
  · rw [hfs] at hf; cases hf

/-- One round: a frame that waits, or one of a body, or none. -/
theorem take_round (b g B : Nat) (e : Lk.En) (d : PD) (xs : Lk.Bs) (w : World) (hL : PEnd w b e d) (hG : Gath w g B xs) (hg : B ≤ g) (hB : ∀ i, foot b d i → i < B) (hl : xs.length ≤ 2 ^ 44) :
    Calls Tryz.prog 37 #[.pointer (some ⟨b, 18, none⟩), gathV g] w fun q w' => match e.row with
      | s :: r => q = .returned (.bool true) ∧ QPost w b g B d { e with row := r } (xs ++ s) w'
      | [] => q = .returned (.bool false) ∧ w' = w := by
  cases hrow : e.row with
  | nil =>
    rcases hL with ⟨hL, hdn⟩ | hL
    · exact rowNil hL.rw hL.rowe hrow
    · exact rowNil hL.rw hL.rowe hrow
  | cons s r =>
    have hW : Lk.Wf { e with row := r } := (hL.wf.drain1 (by unfold Lk.En.drain1; rw [hrow])).1
    rcases hL with ⟨hL, hdn⟩ | hL
    · refine (takeLive b g B e d s r xs w hL hrow hG hg hB hl hW).mono ?_
      rintro q w' ⟨rfl, d', h1, h2, h3, h4⟩
      exact ⟨rfl, d', .inl ⟨h1, hdn⟩, h2, h3, h4⟩
    · exact takeFallen b g B e d s r xs w hL hrow hG hg hB hl hW
theorem send_round (b g B : Nat) (e : Lk.En) (d : PD) (xs : Lk.Bs) (w : World) (hL : PEnd w b e d) (hrow : e.row = []) (hG : Gath w g B xs) (hg : B ≤ g) (hB : ∀ i, foot b d i → i < B) (hl : xs.length ≤ 2 ^ 44) :
    Calls Tryz.prog 38 #[.pointer (some ⟨b, 3, none⟩), gathV g] w fun q w' => match e.drain1 with
      | some (s, e') => q = .returned (.bool true) ∧ QPost w b g B d e' (xs ++ s) w'
      | none => q = .returned (.bool false) ∧ ∃ n, w' = w.drewN n := by
  unfold Lk.En.drain1
  rw [hrow]
  simp only
  rcases hL with ⟨hL, hdn⟩ | hL
  · rw [if_neg (by rw [hdn]; simp)]
    cases hn : e.next with
    | none => exact sendLive_none b g e d w hL hn
    | some i =>
      obtain ⟨o, ho, _⟩ := Lk.next_may hn
      simp only [ho]
      have hW : Lk.Wf (e.bodyOf i o).2 := (hL.wf.drain1 (s := (e.bodyOf i o).1) (by unfold Lk.En.drain1; rw [hrow]; simp only; rw [if_neg (by rw [hdn]; simp), hn]; simp only [ho])).1
      refine (sendLive b g B i e d o xs w hL hn ho hG hg hB hl hW).mono ?_
      rintro q w' ⟨rfl, d', h1, h2, h3, h4⟩
      exact ⟨rfl, d', .inl ⟨h1, hdn⟩, h2, h3, h4⟩
  · rw [if_pos hL.dn]
    have c10 : w.cell? ⟨b, 10, none⟩ = some (.slice none 0 0) := hL.rw.blk.cell 10
    exact sendOut_none b g w ((nextToSend_nil b w hL.rw.lt c10).mono fun q w' h => ⟨h.1, 0, h.2⟩)
end Go.Proofs.YtbkpdapagfjmmaaGreatDoor

/-
  Walks: a span.
-/
namespace Go.Proofs.YtbkpdapagfjmmaaGreatDoor
open Go.RowKit

theorem holds_any (a b n : Int) (w : World) :
    Calls Tryz.prog 128 #[.agg #[.int .i64 a, .int .i64 b], .int .i64 n] w fun e w' => e = .returned (.bool (decide (a ≤ n ∧ n ≤ b))) ∧ Below w.heap.size w w' := by
  go_enter Tryz.func128, Tryz.ntmps128
  go_wp2
  all_goals go_ret
  all_goals refine ⟨ret_bool ?_, ?_⟩
  all_goals first | ((repeat' (first | exact Below.refl _ _ | assumption | apply Below.drew | apply Below.alloc | apply Below.setCell)) <;> (simp <;> omega)) | (simp_all; done)

end Go.Proofs.YtbkpdapagfjmmaaGreatDoor

/-
  Walks: what is asked of a name or of a value.
-/
namespace Go.Proofs.YtbkpdapagfjmmaaGreatDoor
open Go.RowKit

theorem nameByte_int (c : UInt8) : Lk.nameByte c = ((decide ((97 : Int) ≤ c.toNat) && decide ((c.toNat : Int) ≤ 122)) || decide ((c.toNat : Int) = 45)) := by
  rw [Bool.eq_iff_iff]
  simp only [Lk.nameByte, Bool.or_eq_true, Bool.and_eq_true, decide_eq_true_eq, UInt8.le_iff_toNat_le]
  have e : c = 45 ↔ (c.toNat : Int) = 45 := by
    constructor
    · rintro rfl; rfl
    · intro h; exact UInt8.toNat_inj.1 (by simp; omega)
  rw [e]
  simp
  omega
theorem valueByte_int (c : UInt8) : Lk.valueByte c = (decide ((32 : Int) ≤ c.toNat) && decide ((c.toNat : Int) ≤ 126)) := by
  rw [Bool.eq_iff_iff]
  simp only [Lk.valueByte, Bool.and_eq_true, decide_eq_true_eq, UInt8.le_iff_toNat_le]
  simp
  omega

def byteF (name : Bool) : Nat := if name then 127 else 129

theorem isName_any (c : UInt8) (w : World) : Calls Tryz.prog 127 #[.int .u8 c.toNat] w fun e w' => e = .returned (.bool (Lk.nameByte c)) ∧ w' = w := by
  rw [nameByte_int]
  go_enter Tryz.func127, Tryz.ntmps127
  go_wp2
  all_goals go_ret
  all_goals refine ⟨ret_bool ?_, rfl⟩
  all_goals first | rfl | (rw [Bool.eq_iff_iff]; simp <;> omega)
theorem isValue_any (c : UInt8) (w : World) : Calls Tryz.prog 129 #[.int .u8 c.toNat] w fun e w' => e = .returned (.bool (Lk.valueByte c)) ∧ w' = w := by
  rw [valueByte_int]
  go_enter Tryz.func129, Tryz.ntmps129
  go_wp2
  all_goals go_ret
  all_goals refine ⟨ret_bool ?_, rfl⟩
  all_goals first | rfl | (rw [Bool.eq_iff_iff]; simp <;> omega)

abbrev ruleA (lo hi : Int) (f : Nat) : Value := .agg #[.int .i64 lo, .int .i64 hi, .func (.func f) #[] #[]]
abbrev nameR : Value := ruleA 1 16 127
abbrev valueR : Value := ruleA 0 32 129

theorem nameRule_any (w : World) : Calls Tryz.prog 79 #[] w fun e w' => e = .returned nameR ∧ Below w.heap.size w w' := by
  go_enter Tryz.func79, Tryz.ntmps79
  go_wp2_with fail
  exact bodyPost_ret (v := nameR) (by simp [results, Tryz.results79, go_sem]) rfl ⟨rfl, by ((repeat' (first | exact Below.refl _ _ | assumption | apply Below.drew | apply Below.alloc | apply Below.setCell)) <;> (simp <;> omega))⟩
theorem valueRule_any (w : World) : Calls Tryz.prog 81 #[] w fun e w' => e = .returned valueR ∧ Below w.heap.size w w' := by
  go_enter Tryz.func81, Tryz.ntmps81
  go_wp2_with fail
  exact bodyPost_ret (v := valueR) (by simp [results, Tryz.results81, go_sem]) rfl ⟨rfl, by ((repeat' (first | exact Below.refl _ _ | assumption | apply Below.drew | apply Below.alloc | apply Below.setCell)) <;> (simp <;> omega))⟩

theorem all_of (s : ByteArray) (q : UInt8 → Bool) (h : ∀ j (hj : j < s.size), q s[j] = true) : s.data.toList.all q = true := by
  rw [List.all_eq_true]
  intro x hx
  obtain ⟨j, hj, rfl⟩ := List.getElem_of_mem hx
  exact h j (by rw [size_list]; exact hj)
theorem not_all (s : ByteArray) (q : UInt8 → Bool) (j : Nat) (hj : j < s.size) (h : q s[j] = false) : s.data.toList.all q = false := by
  rw [List.all_eq_false]
  refine ⟨s[j], ?_, by simp [h]⟩
  have : s[j] = s.data.toList[j]'(by rw [← size_list]; exact hj) := rfl
  rw [this]
  exact List.getElem_mem _

set_option maxHeartbeats 1000000 in
set_option maxRecDepth 100000 in
theorem fits_long (lo hi : Int) (f : Nat) (s : ByteArray) (w : World) (hl : ¬ (lo ≤ s.size ∧ (s.size : Int) ≤ hi)) :
    Calls Tryz.prog 80 #[ruleA lo hi f, .string s] w fun e w' => e = .returned (.bool false) ∧ Below w.heap.size w w' := by
  go_enter Tryz.func80, Tryz.ntmps80
  go_wp2_with fail
  refine (holds_any lo hi _ _).mono ?_
  rintro e w1 ⟨rfl, hb⟩
  have hd : decide (lo ≤ (s.size : Int) ∧ (s.size : Int) ≤ hi) = false := by simpa using hl
  go_wp2_with fail
  go_ret
  exact ⟨rfl, (((Below.refl w.heap.size w).alloc (Nat.le_refl _) _)).trans (hb.mono (by simp))⟩

set_option maxHeartbeats 1000000 in
set_option maxRecDepth 100000 in
theorem fits_name (s : ByteArray) (w : World) (hl : 1 ≤ (s.size : Int) ∧ (s.size : Int) ≤ 16) :
    Calls Tryz.prog 80 #[ruleA 1 16 127, .string s] w fun e w' => e = .returned (.bool (s.data.toList.all Lk.nameByte)) ∧ Below w.heap.size w w' := by
  have hsz : s.size ≤ 100 := by omega
  generalize hA : s.data.toList.all Lk.nameByte = A
  have HA := hide hA
  clear hA
  go_enter Tryz.func80, Tryz.ntmps80
  go_wp2_with fail
  refine (holds_any 1 16 _ _).mono ?_
  rintro e w1 ⟨rfl, hb⟩
  have hd : decide (1 ≤ (s.size : Int) ∧ (s.size : Int) ≤ 16) = true := by simpa using hl
  have hbel := (((Below.refl w.heap.size w).alloc (Nat.le_refl _) (.cells #[.int .i64 1, .int .i64 16, .func (.func 127) #[] #[]] 182))).trans (hb.mono (by simp))
  have c2 : w1.cell? ⟨w.heap.size, 2, none⟩ = some (.func (.func 127) #[] #[]) := call_keeps hb (by simp) (by simp)
  have hlt := call_lt hb (b := w.heap.size) (by simp)
  clear hb hl
  go_wp2_with fail
  go_loopw [14] (fun u wr => ∃ k : Nat, u = .int .i64 k ∧ k ≤ s.size ∧ Hid (∀ j (hj : j < s.size), j < k → Lk.nameByte s[j] = true) ∧ ∃ n, wr = w1.drewN n) (fun u _ => s.size - (intOf u).toNat)
  case atStart => exact ⟨0, rfl, by omega, fun j hj h => by omega, 0, rfl⟩
  case round =>
    obtain ⟨k, rfl, hk, HK, nd, rfl⟩ := hrel
    by_cases hlt : k < s.size
    · have hlt' : (k : Int) < s.size := by omega
      have c2' : (w1.drewN nd).cell? ⟨w.heap.size, 2, none⟩ = some (.func (.func 127) #[] #[]) := c2
      go_wp2_with fail
      generalize hq : Lk.nameByte s[k] = Q
      have HQ := hide hq
      have hcall : ∀ w, Calls Tryz.prog 127 #[.int .u8 s[k].toNat] w fun e w' => e = .returned (.bool Q) ∧ w' = w := fun w => by rw [← hq]; exact isName_any s[k] w
      clear hq
      have HC := hide hcall
      clear hcall
      go_cut [23] (fun u wc => u = .bool (!Q) ∧ ∃ n, wc = w1.drewN n)
      case first =>
        go_region_with (go_at_call 127; refine (unhide HC _).mono ?_; rintro e w' ⟨rfl, rfl⟩)
        all_goals
          go_wp2_with fail
          go_meet
          exact ⟨rfl, nd + 1, rfl⟩
      obtain ⟨rfl, nd2, rfl⟩ := hcut
      cases Q
      · go_wp2_with fail
        go_ret
        refine ⟨ret_bool ?_, Below.drewN hbel _⟩
        rw [← unhide HA]
        exact (not_all s Lk.nameByte k hlt (unhide HQ)).symm
      · go_wp2_with fail
        go_roundw
        case rel => exact ⟨k + 1, by simp, by omega, fun j hj h => (Nat.lt_succ_iff_lt_or_eq.1 h).elim (fun h => unhide HK j hj h) (fun h => by subst h; exact unhide HQ), _, rfl⟩
        case measure => simp [intOf]; omega
    · have hlt' : ¬ (k : Int) < s.size := by omega
      go_wp2_with fail
      go_ret
      refine ⟨ret_bool ?_, Below.drewN hbel _⟩
      rw [← unhide HA]
      exact (all_of s Lk.nameByte (fun j hj => (unhide HK) j hj (by omega))).symm

set_option maxHeartbeats 1000000 in
set_option maxRecDepth 100000 in
theorem fits_value (s : ByteArray) (w : World) (hl : 0 ≤ (s.size : Int) ∧ (s.size : Int) ≤ 32) :
    Calls Tryz.prog 80 #[ruleA 0 32 129, .string s] w fun e w' => e = .returned (.bool (s.data.toList.all Lk.valueByte)) ∧ Below w.heap.size w w' := by
  have hsz : s.size ≤ 100 := by omega
  generalize hA : s.data.toList.all Lk.valueByte = A
  have HA := hide hA
  clear hA
  go_enter Tryz.func80, Tryz.ntmps80
  go_wp2_with fail
  refine (holds_any 0 32 _ _).mono ?_
  rintro e w1 ⟨rfl, hb⟩
  have hd : decide (0 ≤ (s.size : Int) ∧ (s.size : Int) ≤ 32) = true := by simpa using hl
  have hbel := (((Below.refl w.heap.size w).alloc (Nat.le_refl _) (.cells #[.int .i64 0, .int .i64 32, .func (.func 129) #[] #[]] 182))).trans (hb.mono (by simp))
  have c2 : w1.cell? ⟨w.heap.size, 2, none⟩ = some (.func (.func 129) #[] #[]) := call_keeps hb (by simp) (by simp)
  have hlt := call_lt hb (b := w.heap.size) (by simp)
  have hl2 : (s.size : Int) ≤ 32 := hl.2
  clear hb hl
  go_wp2_with fail
  go_loopw [14] (fun u wr => ∃ k : Nat, u = .int .i64 k ∧ k ≤ s.size ∧ Hid (∀ j (hj : j < s.size), j < k → Lk.valueByte s[j] = true) ∧ ∃ n, wr = w1.drewN n) (fun u _ => s.size - (intOf u).toNat)
  case atStart => exact ⟨0, rfl, by omega, fun j hj h => by omega, 0, rfl⟩
  case round =>
    obtain ⟨k, rfl, hk, HK, nd, rfl⟩ := hrel
    by_cases hlt : k < s.size
    · have hlt' : (k : Int) < s.size := by omega
      have c2' : (w1.drewN nd).cell? ⟨w.heap.size, 2, none⟩ = some (.func (.func 129) #[] #[]) := c2
      go_wp2_with fail
      generalize hq : Lk.valueByte s[k] = Q
      have HQ := hide hq
      have hcall : ∀ w, Calls Tryz.prog 129 #[.int .u8 s[k].toNat] w fun e w' => e = .returned (.bool Q) ∧ w' = w := fun w => by rw [← hq]; exact isValue_any s[k] w
      clear hq
      have HC := hide hcall
      clear hcall
      go_cut [23] (fun u wc => u = .bool (!Q) ∧ ∃ n, wc = w1.drewN n)
      case first =>
        go_region_with (go_at_call 129; refine (unhide HC _).mono ?_; rintro e w' ⟨rfl, rfl⟩)
        all_goals
          go_wp2_with fail
          go_meet
          exact ⟨rfl, nd + 1, rfl⟩
      obtain ⟨rfl, nd2, rfl⟩ := hcut
      cases Q
      · go_wp2_with fail
        go_ret
        refine ⟨ret_bool ?_, Below.drewN hbel _⟩
        rw [← unhide HA]
        exact (not_all s Lk.valueByte k hlt (unhide HQ)).symm
      · go_wp2_with fail
        go_roundw
        case rel => exact ⟨k + 1, by simp, by omega, fun j hj h => (Nat.lt_succ_iff_lt_or_eq.1 h).elim (fun h => unhide HK j hj h) (fun h => by subst h; exact unhide HQ), _, rfl⟩
        case measure => simp [intOf]; omega
    · have hlt' : ¬ (k : Int) < s.size := by omega
      go_wp2_with fail
      go_ret
      refine ⟨ret_bool ?_, Below.drewN hbel _⟩
      rw [← unhide HA]
      exact (all_of s Lk.valueByte (fun j hj => (unhide HK) j hj (by omega))).symm

theorem fitsName_any (s : ByteArray) (w : World) :
    Calls Tryz.prog 80 #[nameR, .string s] w fun e w' => e = .returned (.bool (Lk.fits true s.data.toList)) ∧ Below w.heap.size w w' := by
  have e := size_list s
  by_cases hl : 1 ≤ (s.size : Int) ∧ (s.size : Int) ≤ 16
  · refine (fits_name s w hl).mono ?_
    rintro e' w' ⟨rfl, hb⟩
    refine ⟨ret_bool ?_, hb⟩
    have : Lk.lenOk true s.data.toList.length = true := by simp only [Lk.lenOk, if_true, decide_eq_true_eq]; omega
    rw [Lk.fits, this, Bool.true_and]
    rfl
  · refine (fits_long 1 16 _ s w hl).mono ?_
    rintro e' w' ⟨rfl, hb⟩
    refine ⟨ret_bool ?_, hb⟩
    have : Lk.lenOk true s.data.toList.length = false := by simp only [Lk.lenOk, if_true, decide_eq_false_iff_not]; omega
    rw [Lk.fits, this, Bool.false_and]
theorem fitsValue_any (s : ByteArray) (w : World) :
    Calls Tryz.prog 80 #[valueR, .string s] w fun e w' => e = .returned (.bool (Lk.fits false s.data.toList)) ∧ Below w.heap.size w w' := by
  have e := size_list s
  by_cases hl : 0 ≤ (s.size : Int) ∧ (s.size : Int) ≤ 32
  · refine (fits_value s w hl).mono ?_
    rintro e' w' ⟨rfl, hb⟩
    refine ⟨ret_bool ?_, hb⟩
    have : Lk.lenOk false s.data.toList.length = true := by simp [Lk.lenOk]; omega
    rw [Lk.fits, this, Bool.true_and]
    rfl
  · refine (fits_long 0 32 _ s w hl).mono ?_
    rintro e' w' ⟨rfl, hb⟩
    refine ⟨ret_bool ?_, hb⟩
    have : Lk.lenOk false s.data.toList.length = false := by simp [Lk.lenOk]; omega
    rw [Lk.fits, this, Bool.false_and]
end Go.Proofs.YtbkpdapagfjmmaaGreatDoor

/-
  Walks: can a list of headers be squeezed?
-/
namespace Go.Proofs.YtbkpdapagfjmmaaGreatDoor
open Go.RowKit
attribute [local go_sem ↓] Go.wp_at_zero Go.wp_at_succ

theorem bs_list (l : Lk.Bs) : (bs l).data.toList = l := by simp [bs]
theorem bs_of (s : ByteArray) : bs s.data.toList = s := by simp [bs]
theorem fitsName_hd (l : Lk.Bs) (Q : Bool) (hq : Hid (Lk.fits true l = Q)) (w : World) :
    Calls Tryz.prog 80 #[nameR, .string (bs l)] w fun e w' => e = .returned (.bool Q) ∧ Below w.heap.size w w' := by
  have := fitsName_any (bs l) w
  rw [bs_list, unhide hq] at this
  exact this
theorem fitsValue_hd (l : Lk.Bs) (Q : Bool) (hq : Hid (Lk.fits false l = Q)) (w : World) :
    Calls Tryz.prog 80 #[valueR, .string (bs l)] w fun e w' => e = .returned (.bool Q) ∧ Below w.heap.size w w' := by
  have := fitsValue_any (bs l) w
  rw [bs_list, unhide hq] at this
  exact this

theorem two_cells (w : World) (x y : Value) (T : TypeId) : (w.alloc (.cells #[x, y] T)).cell? ⟨w.heap.size, 0, none⟩ = some x ∧ (w.alloc (.cells #[x, y] T)).cell? ⟨w.heap.size, 1, none⟩ = some y :=
  ⟨(Is.new w T [x, y]).cell 0, (Is.new w T [x, y]).cell 1⟩

/-- A box of two cells is as it was, and nothing old has turned. -/
def Kp (w0 : World) (H : Nat) (a b : Value) (W : World) : Prop := W.cell? ⟨H, 0, none⟩ = some a ∧ W.cell? ⟨H, 1, none⟩ = some b ∧ H < W.heap.size ∧ Below w0.heap.size w0 W
theorem Kp.call {w0 W w' : World} {H : Nat} {a b : Value} (h : Kp w0 H a b W) (hb : Below W.heap.size W w') : Kp w0 H a b w' :=
  ⟨call_keeps hb h.2.2.1 h.1, call_keeps hb h.2.2.1 h.2.1, call_lt hb h.2.2.1, h.2.2.2.trans (hb.mono h.2.2.2.size)⟩
theorem Kp.of {f : Nat} {args : Array Value} {w0 W : World} {H : Nat} {a b r : Value} (h : Kp w0 H a b W) (hc : Calls Tryz.prog f args W fun e w' => e = .returned r ∧ Below W.heap.size W w') :
    Calls Tryz.prog f args W fun e w' => e = .returned r ∧ w'.cell? ⟨H, 0, none⟩ = some a ∧ w'.cell? ⟨H, 1, none⟩ = some b ∧ H < w'.heap.size ∧ Below w0.heap.size w0 w' :=
  hc.mono fun _ _ ⟨he, hb⟩ => ⟨he, h.call hb⟩

set_option maxHeartbeats 4000000 in
set_option maxRecDepth 100000 in
theorem askHeaders_some (B g cap : Nat) (l : List Lk.Hd) (w : World) (hl : l.length ≤ 6) (E P : Int) (HW : Hid ((Lk.wrongAt 0 l).1 = E ∧ (Lk.wrongAt 0 l).2 = P))
    (own : Hid (w.ownsRow B 112 2 (.slice (some ⟨g, 0, none⟩) l.length cap) l.length (hdsV l))) :
    Calls Tryz.prog 43 #[.slice (some ⟨g, 0, none⟩) l.length cap] w fun e w' =>
      e = .returned (.tuple #[.int .i64 E, .int .i64 P]) ∧ Below w.heap.size w w' := by
  have hl6 : ¬ 6 < (l.length : Int) := by omega
  go_enter Tryz.func43, Tryz.ntmps43
  go_wp2_with fail
  go_loopw [11] (fun u wr => ∃ k : Nat, u = .int .i64 k ∧ k ≤ l.length ∧ Hid (Lk.wrongAt 0 l = Lk.wrongAt k (l.drop k)) ∧ Below w.heap.size w wr) (fun u _ => l.length - (intOf u).toNat)
  case atStart => exact ⟨0, rfl, by omega, rfl, Below.refl _ _⟩
  case round =>
    obtain ⟨k, rfl, hk, HK, hbel⟩ := hrel
    by_cases hlt : k < l.length
    · have hlt' : (k : Int) < l.length := by omega
      obtain ⟨x, hx⟩ : ∃ x, l[k]? = some x := ⟨_, List.getElem?_eq_getElem hlt⟩
      obtain ⟨hg2, x0, x1⟩ := row_at2 (own_belowB (unhide own) hbel (by omega)) hx
      have HX := hide hx
      have hwr := hbel.size
      have HB := hide hbel
      clear hx hbel
      go_wp2_with fail
      generalize hq1 : Lk.fits true x.n = Q1
      generalize hq2 : Lk.fits false x.v = Q2
      have HQ1 := hide hq1
      have HQ2 := hide hq2
      clear hq1 hq2
      have k0 := (two_cells wr (.string (bs x.n)) (.string (bs x.v)) 112).1
      have k1 := (two_cells wr (.string (bs x.n)) (.string (bs x.v)) 112).2
      have k3 : Below w.heap.size w (wr.alloc (.cells #[.string (bs x.n), .string (bs x.v)] 112)).drew := ((unhide HB).alloc hwr _).drew
      go_cut [27] (fun u wc => u = .bool (!(Q1 && Q2)) ∧ Below w.heap.size w wc)
      case first =>
        cases Q1
        · first | (go_region_with (first
            | (go_at_call 79; refine (Kp.of (w0 := w) (H := wr.heap.size) (a := .string (bs x.n)) (b := .string (bs x.v)) ?_ (nameRule_any _)).mono ?_; (first | exact ⟨q0, q1, q2, q3⟩ | exact ⟨by simp, by simp, by simp, k3⟩); rintro e w' ⟨rfl, q0, q1, q2, q3⟩)
            | (go_at_call_of 80 (Value.string (bs x.n)); refine (Kp.of (w0 := w) (H := wr.heap.size) (a := .string (bs x.n)) (b := .string (bs x.v)) ?_ (fitsName_hd _ _ HQ1 _)).mono ?_; (first | exact ⟨q0, q1, q2, q3⟩ | exact ⟨by simp, by simp, by simp, k3⟩); rintro e w' ⟨rfl, q0, q1, q2, q3⟩))) | fail
          all_goals
            go_wp2_with fail
            go_meet
            exact ⟨rfl, by assumption⟩
        · cases Q2
          · first | (go_region_held3 (fun w' => w'.cell? ⟨wr.heap.size, 0, none⟩ = some (.string (bs x.n)) ∧ w'.cell? ⟨wr.heap.size, 1, none⟩ = some (.string (bs x.v)) ∧ wr.heap.size < w'.heap.size ∧ Below w.heap.size w w') (go_keep) (first
              | (go_at_call 79; refine (Kp.of (w0 := w) (H := wr.heap.size) (a := .string (bs x.n)) (b := .string (bs x.v)) ?_ (nameRule_any _)).mono ?_; (first | exact ⟨q0, q1, q2, q3⟩ | exact ⟨by simp, by simp, by simp, k3⟩); rintro e w' ⟨rfl, q0, q1, q2, q3⟩)
              | (go_at_call_of 80 (Value.string (bs x.n)); refine (Kp.of (w0 := w) (H := wr.heap.size) (a := .string (bs x.n)) (b := .string (bs x.v)) ?_ (fitsName_hd _ _ HQ1 _)).mono ?_; (first | exact ⟨q0, q1, q2, q3⟩ | exact ⟨by simp, by simp, by simp, k3⟩); rintro e w' ⟨rfl, q0, q1, q2, q3⟩)
              | (go_at_call 81; refine (Kp.of (w0 := w) (H := wr.heap.size) (a := .string (bs x.n)) (b := .string (bs x.v)) ?_ (valueRule_any _)).mono ?_; (first | exact ⟨q0, q1, q2, q3⟩ | exact ⟨by simp, by simp, by simp, k3⟩); rintro e w' ⟨rfl, q0, q1, q2, q3⟩)
              | (go_at_call_of 80 (Value.string (bs x.v)); refine (Kp.of (w0 := w) (H := wr.heap.size) (a := .string (bs x.n)) (b := .string (bs x.v)) ?_ (fitsValue_hd _ _ HQ2 _)).mono ?_; (first | exact ⟨q0, q1, q2, q3⟩ | exact ⟨by simp, by simp, by simp, k3⟩); rintro e w' ⟨rfl, q0, q1, q2, q3⟩))) | fail
            all_goals
              go_wp2_with fail
              go_meet
              exact ⟨rfl, by assumption⟩
          · first | (go_region_held3 (fun w' => w'.cell? ⟨wr.heap.size, 0, none⟩ = some (.string (bs x.n)) ∧ w'.cell? ⟨wr.heap.size, 1, none⟩ = some (.string (bs x.v)) ∧ wr.heap.size < w'.heap.size ∧ Below w.heap.size w w') (go_keep) (first
              | (go_at_call 79; refine (Kp.of (w0 := w) (H := wr.heap.size) (a := .string (bs x.n)) (b := .string (bs x.v)) ?_ (nameRule_any _)).mono ?_; (first | exact ⟨q0, q1, q2, q3⟩ | exact ⟨by simp, by simp, by simp, k3⟩); rintro e w' ⟨rfl, q0, q1, q2, q3⟩)
              | (go_at_call_of 80 (Value.string (bs x.n)); refine (Kp.of (w0 := w) (H := wr.heap.size) (a := .string (bs x.n)) (b := .string (bs x.v)) ?_ (fitsName_hd _ _ HQ1 _)).mono ?_; (first | exact ⟨q0, q1, q2, q3⟩ | exact ⟨by simp, by simp, by simp, k3⟩); rintro e w' ⟨rfl, q0, q1, q2, q3⟩)
              | (go_at_call 81; refine (Kp.of (w0 := w) (H := wr.heap.size) (a := .string (bs x.n)) (b := .string (bs x.v)) ?_ (valueRule_any _)).mono ?_; (first | exact ⟨q0, q1, q2, q3⟩ | exact ⟨by simp, by simp, by simp, k3⟩); rintro e w' ⟨rfl, q0, q1, q2, q3⟩)
              | (go_at_call_of 80 (Value.string (bs x.v)); refine (Kp.of (w0 := w) (H := wr.heap.size) (a := .string (bs x.n)) (b := .string (bs x.v)) ?_ (fitsValue_hd _ _ HQ2 _)).mono ?_; (first | exact ⟨q0, q1, q2, q3⟩ | exact ⟨by simp, by simp, by simp, k3⟩); rintro e w' ⟨rfl, q0, q1, q2, q3⟩))) | fail
            all_goals
              go_wp2_with fail
              go_meet
              exact ⟨rfl, by assumption⟩
      obtain ⟨rfl, hb2⟩ := hcut
      have hG : Lk.good x = (Q1 && Q2) := by rw [← unhide HQ1, ← unhide HQ2]; rfl
      have hdr : l.drop k = x :: l.drop (k + 1) := by
        have := unhide HX
        rw [List.getElem?_eq_getElem hlt] at this
        cases this
        exact List.drop_eq_getElem_cons hlt
      generalize (Q1 && Q2) = G at *
      have HG := hide hG
      have HD := hide hdr
      clear hG hdr x0 x1 k0 k1 k3
      cases G
      · go_wp2_with fail
        go_ret2
        have e := unhide HK
        rw [unhide HD, Lk.wrongAt, unhide HG] at e
        have e2 := unhide HW
        rw [e] at e2
        obtain ⟨rfl, rfl⟩ := e2
        exact ⟨rfl, hb2⟩
      · go_wp2_with fail
        go_roundw
        case rel =>
          refine ⟨k + 1, by simp, by omega, ?_, hb2⟩
          have e := unhide HK
          rw [unhide HD, Lk.wrongAt, unhide HG] at e
          exact e
        case measure => simp [intOf]; omega
    · have hlt' : ¬ (k : Int) < l.length := by omega
      go_wp2_with fail
      go_ret2
      have e := unhide HK
      rw [List.drop_eq_nil_of_le (by omega), Lk.wrongAt] at e
      have e2 := unhide HW
      rw [e] at e2
      obtain ⟨rfl, rfl⟩ := e2
      exact ⟨rfl, hbel⟩

set_option maxRecDepth 100000 in
theorem askHeaders_many (l cap : Nat) (ad : Option Addr) (w : World) (hl : 6 < (l : Int)) :
    Calls Tryz.prog 43 #[.slice ad l cap] w fun e w' => e = .returned (.tuple #[.int .i64 8, .int .i64 0]) ∧ Below w.heap.size w w' := by
  go_enter Tryz.func43, Tryz.ntmps43
  go_wp2_with fail
  go_ret2
  exact ⟨rfl, Below.refl _ _⟩

set_option maxHeartbeats 1000000 in
set_option maxRecDepth 100000 in
theorem askHeaders_none (w : World) :
    Calls Tryz.prog 43 #[.slice none 0 0] w fun e w' => e = .returned (.tuple #[.int .i64 0, .int .i64 0]) ∧ Below w.heap.size w w' := by
  go_enter Tryz.func43, Tryz.ntmps43
  go_wp2_with fail
  refine wp_loop_rounds 1 ?_
  rw [rounds_succ]
  go_wp2_with fail
  go_ret2
  exact ⟨rfl, Below.refl _ _⟩

theorem askHeaders_any (B : Nat) (v : Value) (l : List Lk.Hd) (w : World) (own : w.ownsRow B 112 2 v l.length (hdsV l)) :
    Calls Tryz.prog 43 #[v] w fun e w' => e = .returned (.tuple #[.int .i64 (Lk.wrong l).1, .int .i64 (Lk.wrong l).2]) ∧ Below w.heap.size w w' := by
  rcases owned_hds own with ⟨rfl, rfl⟩ | ⟨g, cap, rfl, _⟩
  · exact askHeaders_none w
  · unfold Lk.wrong
    split
    · exact askHeaders_many l.length cap _ w (by omega)
    · exact askHeaders_some B g cap l w (by omega) _ _ (hide ⟨rfl, rfl⟩) (hide own)
end Go.Proofs.YtbkpdapagfjmmaaGreatDoor
