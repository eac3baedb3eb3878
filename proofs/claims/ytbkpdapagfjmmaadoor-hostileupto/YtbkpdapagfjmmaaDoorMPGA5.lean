import Derived.Test.YtbkpdapagfjmmaaDoorMPEPF
import Derived.Test.YtbkpdapagfjmmaaDoorMSpecSpec3
import Derived.Test.YtbkpdapagfjmmaaDoorMSpec5W0
import Derived.Test.YtbkpdapagfjmmaaDoorProg
import Derived.Laws.BytesArg
import Derived.Deep.RegionWith
/-
  Walks: the stream whose turn it is.
-/
namespace Go.Proofs.YtbkpdapagfjmmaaDoor
open Go.RowKit

theorem nextToSend_nil (b : Nat) (w : World) (_hb : b < w.heap.size) (c : w.cell? ⟨b, 10, none⟩ = some (.slice none 0 0)) : Calls Tryd.prog 73 #[.pointer (some ⟨b, 3, none⟩)] w fun e w' => e = .returned (.tuple #[.pointer none, .bool false]) ∧ w' = w := by
  go_enter Tryd.func73, Tryd.ntmps73
  go_wp2_with fail
  refine wp_loop_rounds 1 ?_
  rw [rounds_succ]
  go_wp2_with fail
  go_ret2
  exact ⟨rfl, rfl⟩

def aboveN (all turn : Nat) (o : Lk.Ow) : Bool := mayN all o && decide (turn < o.id)
def nextN (all turn : Nat) (os : List Lk.Ow) : Option Nat := match os.findIdx? (aboveN all turn) with
  | some i => some i
  | none => os.findIdx? (mayN all)

theorem findIdx_take_snoc {α : Type} (f : α → Bool) (l : List α) (j : Nat) (x : α) (hx : l[j]? = some x) : (l.take (j + 1)).findIdx? f = match (l.take j).findIdx? f with
    | some i => some i
    | none => if f x then some j else none := by
  have e : l.take (j + 1) = l.take j ++ [x] := by rw [List.take_add_one, hx]; rfl
  have hj : (l.take j).length = j := by
    rw [List.length_take]
    rcases Nat.lt_or_ge j l.length with h | h
    · omega
    · rw [List.getElem?_eq_none h] at hx; cases hx
  rw [e, List.findIdx?_append]
  cases (l.take j).findIdx? f with
  | some i => rfl
  | none =>
    simp only [Option.none_or]
    rw [List.findIdx?_cons]
    split
    · rename_i h; simp [hj]
    · rename_i h; simp

set_option maxHeartbeats 2000000 in
set_option maxRecDepth 100000 in
theorem nextToSend_some (b B g m cap all turn : Nat) (os : List Lk.Ow) (ps : List Nat) (R : Option Nat) (w : World) (hb : b < w.heap.size) (c : w.cell? ⟨b, 10, none⟩ = some (.slice (some ⟨g, 0, none⟩) m cap)) (c9 : w.cell? ⟨b, 9, none⟩ = some (.int .i64 (all : Int))) (c8 : w.cell? ⟨b, 8, none⟩ = some (.int .i64 (turn : Int))) (hO : Outs w os ps) (ho : w.ownsRow B 143 1 (.slice (some ⟨g, 0, none⟩) m cap) ps.length (ps.map ptr)) (hm : Hid (m = ps.length)) (h4 : m ≤ 1000)
    (hR : Hid (nextN all turn os = R)) :
    Calls Tryd.prog 73 #[.pointer (some ⟨b, 3, none⟩)] w fun e w' => e = .returned (.tuple #[optPtr (R.bind fun i => ps[i]?), .bool R.isSome]) ∧ ∃ n, w' = w.drewN n := by
  have hol := hO.len
  have HOL := hide hol
  have HO := hide hO
  have HW := hide ho
  clear hO ho hol
  go_enter Tryd.func73, Tryd.ntmps73
  go_wp2_with fail
  go_loopw [4, 12] (fun q u wr => ∃ j : Nat, u = .int .i64 j ∧ j ≤ m ∧ Hid (q = optPtr (((os.take j).findIdx? (mayN all)).bind fun i => ps[i]?)) ∧ Hid (∀ i o, i < j → os[i]? = some o → aboveN all turn o = false) ∧ ∃ n, wr = w.drewN n) (fun _ u _ => m - (intOf u).toNat)
  case atStart => exact ⟨0, rfl, by omega, rfl, fun i o hi => by omega, 0, rfl⟩
  case round =>
    obtain ⟨j, rfl, hj, HQ, HJ, n, rfl⟩ := hrel
    by_cases hlt : j < m
    · have hme := unhide hm
      have hol := unhide HOL
      obtain ⟨o, p, ho, hp, hI⟩ := (unhide HO).get (i := j) (by omega)
      obtain ⟨hg, cp⟩ := row_ptr (unhide HW) hp
      have hlt' : (j : Int) < m := by omega
      have c0 := hI.cell 0
      simp only [owV, List.getElem?_cons_zero] at c0
      have hpl := hI.lt
      have HC := hide (fun n => maySend_any b p all o (w.drewN n) hb c9 (hI.drewN n))
      have HOJ := hide ho
      have HP := hide hp
      have hjo : j < os.length := by omega
      have HSN := hide (findIdx_take_snoc (mayN all) os j o ho)
      clear hI ho hp hme hol
      cases hmay : mayN all o with
      | false =>
        rw [hmay] at HC
        go_wp2_with fail
        refine (unhide HC n).mono ?_
        rintro e w1 ⟨rfl, n1, rfl⟩
        go_wp2_with fail
        go_roundw
        case rel =>
          refine ⟨j + 1, by simp, by omega, ?_, ?_, n + n1, by first | rfl | simp⟩
          · have e := unhide HSN
            rw [hmay] at e
            rw [Hid, e, unhide HQ]
            cases (os.take j).findIdx? (mayN all) <;> rfl
          · intro i x hi hx
            by_cases e : i = j
            · subst e
              rw [unhide HOJ] at hx
              cases hx
              simp [aboveN, hmay]
            · exact unhide HJ i x (by omega) hx
        case measure => simp [intOf]; omega
      | true =>
        rw [hmay] at HC
        by_cases htn : turn < o.id
        · have htn' : (turn : Int) < (o.id : Int) := by omega
          have hRR : R = some j := by
            rw [← unhide hR]
            unfold nextN
            have : os.findIdx? (aboveN all turn) = some j := by
              rw [List.findIdx?_eq_some_iff_getElem]
              refine ⟨hjo, ?_, ?_⟩
              · have := unhide HOJ
                rw [List.getElem?_eq_getElem hjo] at this
                cases this
                simp [aboveN, hmay, htn]
              · intro i hi
                have := unhide HJ i os[i] hi (List.getElem?_eq_getElem (by omega))
                simp [this]
            rw [this]
          subst hRR
          go_wp2_with fail
          refine (unhide HC n).mono ?_
          rintro e w1 ⟨rfl, n1, rfl⟩
          go_wp2_with fail
          go_quiet (fail)
          go_wp2_with fail
          go_ret2
          refine ⟨?_, by first | exact ⟨_, rfl⟩ | exact ⟨_, by simp; rfl⟩⟩
          have := unhide HP
          simp [this, optPtr, ptr]
        · have htn' : ¬ (turn : Int) < (o.id : Int) := by omega
          have hab : aboveN all turn o = false := by simp [aboveN, htn]
          have hrel2 : Hid (∀ i x, i < j + 1 → os[i]? = some x → aboveN all turn x = false) := by
            intro i x hi hx
            by_cases e : i = j
            · subst e
              rw [unhide HOJ] at hx
              cases hx
              exact hab
            · exact unhide HJ i x (by omega) hx
          cases hlow : (os.take j).findIdx? (mayN all) with
          | none =>
            have e := unhide HSN
            rw [hlow, hmay] at e
            simp only [if_true] at e
            have hq := unhide HQ
            rw [hlow] at hq
            simp only [Option.bind_none, optPtr] at hq
            subst hq
            have HE := hide e
            clear e
            go_wp2_with fail
            refine (unhide HC n).mono ?_
            rintro e w1 ⟨rfl, n1, rfl⟩
            go_wp2_with fail
            go_quiet (fail)
            go_wp2_with fail
            go_roundw
            case rel =>
              refine ⟨j + 1, by simp, by omega, ?_, hrel2, by first | exact ⟨_, rfl⟩ | exact ⟨_, by simp; rfl⟩⟩
              rw [Hid, unhide HE]
              have := unhide HP
              simp [this, optPtr, ptr]
            case measure => simp [intOf]; omega
          | some i0 =>
            have e := unhide HSN
            rw [hlow] at e
            simp only at e
            have hq := unhide HQ
            rw [hlow] at hq
            obtain ⟨q0, hq0⟩ : ∃ q0, ps[i0]? = some q0 := by
              have h1 := (List.findIdx?_eq_some_iff_getElem.1 hlow).1
              rw [List.length_take] at h1
              have hme := unhide hm
              exact ⟨_, List.getElem?_eq_getElem (by omega)⟩
            simp only [Option.bind_some, hq0, optPtr, ptr] at hq
            subst hq
            have HE := hide e
            have HQ0 := hide hq0
            clear e hq0
            go_wp2_with fail
            refine (unhide HC n).mono ?_
            rintro e w1 ⟨rfl, n1, rfl⟩
            go_wp2_with fail
            go_quiet (fail)
            go_wp2_with fail
            go_roundw
            case rel =>
              refine ⟨j + 1, by simp, by omega, ?_, hrel2, by first | exact ⟨_, rfl⟩ | exact ⟨_, by simp; rfl⟩⟩
              rw [Hid, unhide HE]
              have := unhide HQ0
              simp [this, optPtr, ptr]
            case measure => simp [intOf]; omega
    · have hlt' : ¬ (j : Int) < m := by omega
      have hab : os.findIdx? (aboveN all turn) = none := by
        have hme := unhide hm
        have hol := unhide HOL
        rw [List.findIdx?_eq_none_iff]
        intro x hx
        obtain ⟨i, hi⟩ := List.getElem?_of_mem hx
        refine unhide HJ i x ?_ hi
        rcases Nat.lt_or_ge i os.length with h | h
        · omega
        · rw [List.getElem?_eq_none h] at hi; cases hi
      have hRR : R = os.findIdx? (mayN all) := by
        rw [← unhide hR]
        unfold nextN
        rw [hab]
      have hq := unhide HQ
      rw [List.take_of_length_le (by have hme := unhide hm; have hol := unhide HOL; omega), ← hRR] at hq
      clear hab hRR
      cases R with
      | none =>
        simp only [Option.bind_none, optPtr] at hq
        subst hq
        go_wp2_with fail
        go_ret2
        exact ⟨rfl, n, rfl⟩
      | some i0 =>
        obtain ⟨q0, hq0⟩ : ∃ q0, ps[i0]? = some q0 := by
          have h1 : os.findIdx? (mayN all) = some i0 ∨ os.findIdx? (aboveN all turn) = some i0 := by
            have := unhide hR
            unfold nextN at this
            cases hx : os.findIdx? (aboveN all turn) with
            | some i => rw [hx] at this; exact .inr this
            | none => rw [hx] at this; exact .inl this
          have hl : i0 < os.length := by
            rcases h1 with h | h <;> exact (List.findIdx?_eq_some_iff_getElem.1 h).1
          have hol := unhide HOL
          exact ⟨_, List.getElem?_eq_getElem (by omega)⟩
        simp only [Option.bind_some, hq0, optPtr, ptr] at hq
        subst hq
        have HQ0 := hide hq0
        clear hq0
        go_wp2_with fail
        go_ret2
        refine ⟨?_, n, rfl⟩
        have := unhide HQ0
        simp [this, optPtr, ptr]
end Go.Proofs.YtbkpdapagfjmmaaDoor

/-
  Plain facts on numbers that are read, in the walk's own forms.
-/
namespace Go.Proofs.YtbkpdapagfjmmaaDoor
open Go.RowKit

theorem size_list (s : ByteArray) : s.size = s.data.toList.length := Array.length_toList.symm
theorem drop_cons (s : ByteArray) (q : Nat) (h : q < s.size) : s.data.toList.drop q = s[q] :: s.data.toList.drop (q + 1) := by
  rw [List.drop_eq_getElem_cons (by simpa using h)]; rfl
theorem drop_end (s : ByteArray) (q : Nat) (h : s.size ≤ q) : s.data.toList.drop q = [] := by
  rw [List.drop_eq_nil_iff]; simpa using h

theorem wraps_i64 (n : Int) (h0 : 0 ≤ n) (h1 : n < 2 ^ 62) : IntKind.i64.wrap n = n := by rw [IntKind.wrap_i64]; omega

theorem low7 (c : Nat) (h : c < 256) : bits .and .u8 (c : Int) 127 = ((c % 128 : Nat) : Int) := by
  have := bits_mask .u8 8 (by decide) wraps_u8 7 (by decide) (c : Int) (by omega) (by omega)
  simpa using this

theorem or_high (i a b : Nat) (hi : i ≤ 40) (ha : a < 2 ^ i) (hb : b % 2 ^ i = 0) (hb2 : b < 2 ^ 62) : bits .or .i64 (a : Int) (b : Int) = ((a + b : Nat) : Int) := by
  have hp : 2 ^ i ≤ 2 ^ 40 := Nat.pow_le_pow_right (by decide) hi
  rw [(bits_nat .i64 62 (by decide) wraps_i64 a b (by omega) hb2).2]
  have hq : b = 2 ^ i * (b / 2 ^ i) := by
    have := Nat.div_add_mod b (2 ^ i)
    omega
  rw [Nat.or_comm, hq, ← Nat.two_pow_add_eq_or_of_lt ha (b / 2 ^ i), Nat.add_comm]

theorem wrap64_small (n : Nat) (h : n < 2 ^ 62) : wrap64 (n : Int) = (n : Int) := IntWalk.wrap64_in _ ⟨by omega, by omega⟩

theorem num_step (t acc c : Nat) (ht : t < 4) (hacc : acc < 128 ^ t) (hc : c < 256) :
    bits .or .i64 (acc : Int) (wrap64 (wrap64 (bits .and .u8 (c : Int) 127) * 2 ^ (7 * t))) = ((acc + c % 128 * 128 ^ t : Nat) : Int) := by
  rw [low7 c hc, wrap64_small _ (by omega)]
  have e : ((c % 128 : Nat) : Int) * 2 ^ (7 * t) = ((c % 128 * 128 ^ t : Nat) : Int) := by
    rcases (by omega : t = 0 ∨ t = 1 ∨ t = 2 ∨ t = 3) with rfl | rfl | rfl | rfl <;> simp
  have hb : c % 128 * 128 ^ t < 2 ^ 62 := by
    rcases (by omega : t = 0 ∨ t = 1 ∨ t = 2 ∨ t = 3) with rfl | rfl | rfl | rfl <;> omega
  rw [e, wrap64_small _ hb]
  refine or_high (7 * t) acc _ (by omega) ?_ ?_ hb
  · rcases (by omega : t = 0 ∨ t = 1 ∨ t = 2 ∨ t = 3) with rfl | rfl | rfl | rfl <;> simpa using hacc
  · rcases (by omega : t = 0 ∨ t = 1 ∨ t = 2 ∨ t = 3) with rfl | rfl | rfl | rfl <;> omega

theorem num_step0 (c : Nat) (hc : c < 256) : bits .or .i64 0 (wrap64 (wrap64 (bits .and .u8 (c : Int) 127))) = ((0 + c % 128 * 128 ^ 0 : Nat) : Int) := by
  have := num_step 0 0 c (by omega) (by omega) hc
  simpa using this

/-- At the label: t bytes of a number are taken and make acc; the cursor is at q. -/
def Halfway (s : ByteArray) (p t q acc : Nat) : Prop := q = p + t ∧ t ≤ 4 ∧ q ≤ s.size ∧ acc < 128 ^ t ∧ Lk.rd t acc (s.data.toList.drop q) = Lk.rd 0 0 (s.data.toList.drop p)

theorem Halfway.start (s : ByteArray) (p : Nat) (hp : p ≤ s.size) : Halfway s p 0 p 0 := ⟨rfl, by omega, hp, by omega, rfl⟩
theorem byte_lt (c : UInt8) : c.toNat < 256 := c.toNat_lt
theorem byte_zero {c : UInt8} (h : c.toNat = 0) : c = 0 := UInt8.toNat_inj.1 (by simpa using h)

theorem Halfway.next {s : ByteArray} {p t q acc : Nat} (h : Halfway s p t q acc) (hlt : q < s.size) (ht : t < 4) (h0 : ¬ (0 < t ∧ s[q].toNat = 0)) (hc : 127 < s[q].toNat) :
    Halfway s p (t + 1) (q + 1) (acc + s[q].toNat % 128 * 128 ^ t) := by
  obtain ⟨rfl, h1, h2, h3, h4⟩ := h
  refine ⟨by omega, by omega, by omega, ?_, ?_⟩
  · rcases (by omega : t = 0 ∨ t = 1 ∨ t = 2 ∨ t = 3) with rfl | rfl | rfl | rfl <;> omega
  · rw [← h4, drop_cons s _ hlt, Lk.rd_next _ _ _ _ (by rintro (h | ⟨h, h'⟩) <;> first | omega | exact h0 ⟨h, by rw [h']; rfl⟩) (by omega)]

theorem Halfway.short {s : ByteArray} {p t q acc : Nat} {r : Lk.Rd} (h : Halfway s p t q acc) (hr : Hid (Lk.rd 0 0 (s.data.toList.drop p) = r)) (hlt : ¬ q < s.size) : r.val = 0 ∧ r.good = false ∧ r.at p s.size = q := by
  obtain ⟨rfl, h1, h2, h3, h4⟩ := h
  have : r = .short := by rw [← unhide hr, ← h4, drop_end s _ (by omega), Lk.rd_nil]
  subst this
  exact ⟨rfl, rfl, by show s.size = _; omega⟩

theorem Halfway.bad {s : ByteArray} {p t q acc : Nat} {r : Lk.Rd} (h : Halfway s p t q acc) (hr : Hid (Lk.rd 0 0 (s.data.toList.drop p) = r)) (hlt : q < s.size) (hb : t = 4 ∨ (0 < t ∧ s[q].toNat = 0)) : r.val = 0 ∧ r.good = false ∧ r.at p s.size = q := by
  obtain ⟨rfl, h1, h2, h3, h4⟩ := h
  have : r = .bad t := by
    rw [← unhide hr, ← h4, drop_cons s _ hlt, Lk.rd_bad _ _ _ _ (hb.imp id fun ⟨a, b⟩ => ⟨a, byte_zero b⟩)]
  subst this
  exact ⟨rfl, rfl, rfl⟩

theorem Halfway.last {s : ByteArray} {p t q acc : Nat} {r : Lk.Rd} (h : Halfway s p t q acc) (hr : Hid (Lk.rd 0 0 (s.data.toList.drop p) = r)) (hlt : q < s.size) (ht : t < 4) (h0 : ¬ (0 < t ∧ s[q].toNat = 0)) (hc : s[q].toNat ≤ 127) :
    r.val = ((acc + s[q].toNat % 128 * 128 ^ t : Nat) : Int) ∧ r.good = true ∧ r.at p s.size = q + 1 := by
  obtain ⟨rfl, h1, h2, h3, h4⟩ := h
  have : r = .ok (acc + s[p + t].toNat % 128 * 128 ^ t) (t + 1) := by
    rw [← unhide hr, ← h4, drop_cons s _ hlt, Lk.rd_last _ _ _ _ (by rintro (h | ⟨h, h'⟩) <;> first | omega | exact h0 ⟨h, by rw [h']; rfl⟩) (by omega)]
  subst this
  exact ⟨rfl, rfl, rfl⟩

theorem ret_num {r : Lk.Rd} {a : Int} {b : Bool} (h : r.val = a) (h' : r.good = b) : Ending.returned (.tuple #[.int .i64 a, .bool b]) = .returned (.tuple #[.int .i64 r.val, .bool r.good]) := by rw [h, h']

theorem extract_list (s : ByteArray) (i j : Nat) : (s.extract i j).data.toList = (s.data.toList.drop i).take (j - i) := by
  rw [ByteArray.data_extract, Array.toList_extract]

end Go.Proofs.YtbkpdapagfjmmaaDoor

/-
  Bytes and strings.
-/
namespace Go.Proofs.YtbkpdapagfjmmaaDoor
open Go.RowKit

theorem own : ownKnob Tryd.prog.godebug = none := by kernel_rfl

theorem Is.string {w : World} {g : Nat} {cs : List Value} {xs : List Int} (h : Is w g 5 cs) (hp : (xs.map (Value.int .u8)) <+: cs) (cap : Nat) :
    (convert 88 9 (.slice (some ⟨g, 0, none⟩) xs.length cap)).run Tryd.prog w = .ok (.string (strOfNums xs)) w := by
  refine run_convert_bytes_arg w 88 5 Tryd.underlying88 Tryd.underlying5 g 0 xs.length cap xs rfl ?_ 9 Tryd.underlying9
  intro i hi
  rw [Nat.zero_add, h.cell i]
  obtain ⟨t, rfl⟩ := hp
  rw [List.getElem?_append_left (by simpa using hi)]
  simp [hi]

theorem one_string (w : World) (x : Int) : (convert 88 9 (.slice (some ⟨w.heap.size, 0, none⟩) 1 1)).run Tryd.prog (w.alloc (.cells #[.int .u8 x] 5)) = .ok (.string ⟨#[UInt8.ofNat x.toNat]⟩) (w.alloc (.cells #[.int .u8 x] 5)) :=
  Is.string (xs := [x]) (Is.new w 5 [.int .u8 x]) (List.prefix_refl _) 1

theorem bcell {W w1 : World} (hb : Below W.heap.size W w1) : (∀ b o, b < W.heap.size → w1.cell? ⟨b, o, none⟩ = W.cell? ⟨b, o, none⟩) ∧ (∀ b o, b < W.heap.size → w1.frozen? ⟨b, o, none⟩ = W.frozen? ⟨b, o, none⟩) :=
  ⟨fun b o h => hb.cell (p := ⟨b, o, none⟩) h, fun b o h => hb.frozen (p := ⟨b, o, none⟩) h⟩

theorem ret_string {a b : ByteArray} (h : a = b) : Ending.returned (.string a) = .returned (.string b) := by rw [h]

theorem cell_string (w : World) (g : Nat) (x : Int) (h : w.cell? ⟨g, 0, none⟩ = some (.int .u8 x)) :
    (convert 88 9 (.slice (some ⟨g, 0, none⟩) 1 1)).run Tryd.prog w = .ok (.string ⟨#[UInt8.ofNat x.toNat]⟩) w := by
  refine run_convert_bytes_arg w 88 5 Tryd.underlying88 Tryd.underlying5 g 0 1 1 [x] rfl ?_ 9 Tryd.underlying9
  intro i hi
  obtain rfl : i = 0 := by omega
  simpa using h

end Go.Proofs.YtbkpdapagfjmmaaDoor
