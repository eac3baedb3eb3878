import Derived.Test.YtbkpdapagfjmmaaGreatDoorMPCPF
import Derived.Test.YtbkpdapagfjmmaaGreatDoorMSpecW0
import Derived.Test.YtbkpdapagfjmmaaGreatDoorProg
import Derived.Laws.BytesArg
import Derived.Deep.RegionWith
import Derived.Test.YtbkpdapagfjmmaaGreatDoorMT1N1
import Derived.Lib.AppendStr
import Derived.WalkMore
import Derived.ScopeJumps
set_option linter.unusedVariables false
set_option maxRecDepth 100000
set_option maxHeartbeats 16000000
namespace Go.Proofs.YtbkpdapagfjmmaaGreatDoor
open Go.RowKit
theorem nextToSend_nil (b : Nat) (w : World) (_hb : b < w.heap.size) (c : w.cell? ⟨b, 10, none⟩ = some (.slice none 0 0)) : Calls Tryz.prog 73 #[.pointer (some ⟨b, 3, none⟩)] w fun e w' => e = .returned (.tuple #[.pointer none, .bool false]) ∧ w' = w := by
  go_enter Tryz.func73, Tryz.ntmps73
  go_wp2_with fail
  refine wp_loop_rounds 1 ?_
  rw [rounds_succ]
  go_wp2_with fail
  go_ret2
  exact ⟨rfl, rfl⟩
def aboveN (all turn : Nat) (o : Lk.Ow) : Bool := mayN all o && decide (turn < o.id)
def nextN (all turn : Nat) (os : List Lk.Ow) : Option Nat := match os.findIdx? (aboveN all turn) with
  | some i => some i
  | none => os.findIdx? (mayN all)
theorem findIdx_take_snoc {α : Type} (f : α → Bool) (l : List α) (j : Nat) (x : α) (hx : l[j]? = some x) : (l.take (j + 1)).findIdx? f = match (l.take j).findIdx? f with
    | some i => some i
    | none => if f x then some j else none := by
  have e : l.take (j + 1) = l.take j ++ [x] := by rw [List.take_add_one, hx]; rfl
  have hj : (l.take j).length = j := by
    rw [List.length_take]
    rcases Nat.lt_or_ge j l.length with h | h
    · omega
    · rw [List.getElem?_eq_none h] at hx; cases hx
  rw [e, List.findIdx?_append]
  cases (l.take j).findIdx? f with
  | some i => rfl
  | none =>
    simp only [Option.none_or]
    rw [List.findIdx?_cons]
    split
    · rename_i h; simp [hj]
    · rename_i h; simp
theorem nextToSend_some (b B g m cap all turn : Nat) (os : List Lk.Ow) (ps : List Nat) (R : Option Nat) (w : World) (hb : b < w.heap.size) (c : w.cell? ⟨b, 10, none⟩ = some (.slice (some ⟨g, 0, none⟩) m cap)) (c9 : w.cell? ⟨b, 9, none⟩ = some (.int .i64 (all : Int))) (c8 : w.cell? ⟨b, 8, none⟩ = some (.int .i64 (turn : Int))) (hO : Outs w os ps) (ho : w.ownsRow B 169 1 (.slice (some ⟨g, 0, none⟩) m cap) ps.length (ps.map ptr)) (hm : Hid (m = ps.length)) (h4 : m ≤ 1000)
    (hR : Hid (nextN all turn os = R)) :
    Calls Tryz.prog 73 #[.pointer (some ⟨b, 3, none⟩)] w fun e w' => e = .returned (.tuple #[optPtr (R.bind fun i => ps[i]?), .bool R.isSome]) ∧ ∃ n, w' = w.drewN n := by
  have hol := hO.len
  have HOL := hide hol
  have HO := hide hO
  have HW := hide ho
  clear hO ho hol
  go_enter Tryz.func73, Tryz.ntmps73
  go_wp2_with fail
  go_loopw [4, 12] (fun q u wr => ∃ j : Nat, u = .int .i64 j ∧ j ≤ m ∧ Hid (q = optPtr (((os.take j).findIdx? (mayN all)).bind fun i => ps[i]?)) ∧ Hid (∀ i o, i < j → os[i]? = some o → aboveN all turn o = false) ∧ ∃ n, wr = w.drewN n) (fun _ u _ => m - (intOf u).toNat)
  case atStart => exact ⟨0, rfl, by omega, rfl, fun i o hi => by omega, 0, rfl⟩
  case round =>
    obtain ⟨j, rfl, hj, HQ, HJ, n, rfl⟩ := hrel
    by_cases hlt : j < m
    · have hme := uh hm
      have hol := uh HOL
      obtain ⟨o, p, ho, hp, hI⟩ := (uh HO).get (i := j) (by omega)
      obtain ⟨hg, cp⟩ := row_ptr (uh HW) hp
      have hlt' : (j : Int) < m := by omega
      have c0 := hI.cell 0
      simp only [owV, List.getElem?_cons_zero] at c0
      have hpl := hI.lt
      have HC := hide (fun n => maySend_any b p all o (w.drewN n) hb c9 (hI.drewN n))
      have HOJ := hide ho
      have HP := hide hp
      have hjo : j < os.length := by omega
      have HSN := hide (findIdx_take_snoc (mayN all) os j o ho)
      clear hI ho hp hme hol
      cases hmay : mayN all o with
      | false =>
        rw [hmay] at HC
        go_wp2_with fail
        refine (uh HC n).mono ?_
        rintro e w1 ⟨rfl, n1, rfl⟩
        go_wp2_with fail
        go_roundw
        case rel =>
          refine ⟨j + 1, by simp, by omega, ?_, ?_, n + n1, by first | rfl | simp⟩
          · have e := uh HSN
            rw [hmay] at e
            rw [Hid, e, uh HQ]
            cases (os.take j).findIdx? (mayN all) <;> rfl
          · intro i x hi hx
            by_cases e : i = j
            · subst e
              rw [uh HOJ] at hx
              cases hx
              simp [aboveN, hmay]
            · exact uh HJ i x (by omega) hx
        case measure => simp [intOf]; omega
      | true =>
        rw [hmay] at HC
        by_cases htn : turn < o.id
        · have htn' : (turn : Int) < (o.id : Int) := by omega
          have hRR : R = some j := by
            rw [← uh hR]
            unfold nextN
            have : os.findIdx? (aboveN all turn) = some j := by
              rw [List.findIdx?_eq_some_iff_getElem]
              refine ⟨hjo, ?_, ?_⟩
              · have := uh HOJ
                rw [List.getElem?_eq_getElem hjo] at this
                cases this
                simp [aboveN, hmay, htn]
              · intro i hi
                have := uh HJ i os[i] hi (List.getElem?_eq_getElem (by omega))
                simp [this]
            rw [this]
          subst hRR
          go_wp2_with fail
          refine (uh HC n).mono ?_
          rintro e w1 ⟨rfl, n1, rfl⟩
          go_wp2_with fail
          go_quiet (fail)
          go_wp2_with fail
          go_ret2
          refine ⟨?_, by first | exact ⟨_, rfl⟩ | exact ⟨_, by simp; rfl⟩⟩
          have := uh HP
          simp [this, optPtr, ptr]
        · have htn' : ¬ (turn : Int) < (o.id : Int) := by omega
          have hab : aboveN all turn o = false := by simp [aboveN, htn]
          have hrel2 : Hid (∀ i x, i < j + 1 → os[i]? = some x → aboveN all turn x = false) := by
            intro i x hi hx
            by_cases e : i = j
            · subst e
              rw [uh HOJ] at hx
              cases hx
              exact hab
            · exact uh HJ i x (by omega) hx
          cases hlow : (os.take j).findIdx? (mayN all) with
          | none =>
            have e := uh HSN
            rw [hlow, hmay] at e
            simp only [if_true] at e
            have hq := uh HQ
            rw [hlow] at hq
            simp only [Option.bind_none, optPtr] at hq
            subst hq
            have HE := hide e
            clear e
            go_wp2_with fail
            refine (uh HC n).mono ?_
            rintro e w1 ⟨rfl, n1, rfl⟩
            go_wp2_with fail
            go_quiet (fail)
            go_wp2_with fail
            go_roundw
            case rel =>
              refine ⟨j + 1, by simp, by omega, ?_, hrel2, by first | exact ⟨_, rfl⟩ | exact ⟨_, by simp; rfl⟩⟩
              rw [Hid, uh HE]
              have := uh HP
              simp [this, optPtr, ptr]
            case measure => simp [intOf]; omega
          | some i0 =>
            have e := uh HSN
            rw [hlow] at e
            simp only at e
            have hq := uh HQ
            rw [hlow] at hq
            obtain ⟨q0, hq0⟩ : ∃ q0, ps[i0]? = some q0 := by
              have h1 := (List.findIdx?_eq_some_iff_getElem.1 hlow).1
              rw [List.length_take] at h1
              have hme := uh hm
              exact ⟨_, List.getElem?_eq_getElem (by omega)⟩
            simp only [Option.bind_some, hq0, optPtr, ptr] at hq
            subst hq
            have HE := hide e
            have HQ0 := hide hq0
            clear e hq0
            go_wp2_with fail
            refine (uh HC n).mono ?_
            rintro e w1 ⟨rfl, n1, rfl⟩
            go_wp2_with fail
            go_quiet (fail)
            go_wp2_with fail
            go_roundw
            case rel =>
              refine ⟨j + 1, by simp, by omega, ?_, hrel2, by first | exact ⟨_, rfl⟩ | exact ⟨_, by simp; rfl⟩⟩
              rw [Hid, uh HE]
              have := uh HQ0
              simp [this, optPtr, ptr]
            case measure => simp [intOf]; omega
    · have hlt' : ¬ (j : Int) < m := by omega
      have hab : os.findIdx? (aboveN all turn) = none := by
        have hme := uh hm
        have hol := uh HOL
        rw [List.findIdx?_eq_none_iff]
        intro x hx
        obtain ⟨i, hi⟩ := List.getElem?_of_mem hx
        refine uh HJ i x ?_ hi
        rcases Nat.lt_or_ge i os.length with h | h
        · omega
        · rw [List.getElem?_eq_none h] at hi; cases hi
      have hRR : R = os.findIdx? (mayN all) := by
        rw [← uh hR]
        unfold nextN
        rw [hab]
      have hq := uh HQ
      rw [List.take_of_length_le (by have hme := uh hm; have hol := uh HOL; omega), ← hRR] at hq
      clear hab hRR
      cases R with
      | none =>
        simp only [Option.bind_none, optPtr] at hq
        subst hq
        go_wp2_with fail
        go_ret2
        exact ⟨rfl, n, rfl⟩
      | some i0 =>
        obtain ⟨q0, hq0⟩ : ∃ q0, ps[i0]? = some q0 := by
          have h1 : os.findIdx? (mayN all) = some i0 ∨ os.findIdx? (aboveN all turn) = some i0 := by
            have := uh hR
            unfold nextN at this
            cases hx : os.findIdx? (aboveN all turn) with
            | some i => rw [hx] at this; exact .inr this
            | none => rw [hx] at this; exact .inl this
          have hl : i0 < os.length := by
            rcases h1 with h | h <;> exact (List.findIdx?_eq_some_iff_getElem.1 h).1
          have hol := uh HOL
          exact ⟨_, List.getElem?_eq_getElem (by omega)⟩
        simp only [Option.bind_some, hq0, optPtr, ptr] at hq
        subst hq
        have HQ0 := hide hq0
        clear hq0
        go_wp2_with fail
        go_ret2
        refine ⟨?_, n, rfl⟩
        have := uh HQ0
        simp [this, optPtr, ptr]
end Go.Proofs.YtbkpdapagfjmmaaGreatDoor

namespace Go.Proofs.YtbkpdapagfjmmaaGreatDoor
open Go.RowKit
theorem size_list (s : ByteArray) : s.size = s.data.toList.length := Array.length_toList.symm
theorem drop_cons (s : ByteArray) (q : Nat) (h : q < s.size) : s.data.toList.drop q = s[q] :: s.data.toList.drop (q + 1) := by
  rw [List.drop_eq_getElem_cons (by simpa using h)]; rfl
theorem drop_end (s : ByteArray) (q : Nat) (h : s.size ≤ q) : s.data.toList.drop q = [] := by
  rw [List.drop_eq_nil_iff]; simpa using h
theorem wraps_i64 (n : Int) (h0 : 0 ≤ n) (h1 : n < 2 ^ 62) : IntKind.i64.wrap n = n := by rw [IntKind.wrap_i64]; omega
theorem low7 (c : Nat) (h : c < 256) : bits .and .u8 (c : Int) 127 = ((c % 128 : Nat) : Int) := by
  have := bits_mask .u8 8 (by decide) wraps_u8 7 (by decide) (c : Int) (by omega) (by omega)
  simpa using this
theorem or_high (i a b : Nat) (hi : i ≤ 40) (ha : a < 2 ^ i) (hb : b % 2 ^ i = 0) (hb2 : b < 2 ^ 62) : bits .or .i64 (a : Int) (b : Int) = ((a + b : Nat) : Int) := by
  have hp : 2 ^ i ≤ 2 ^ 40 := Nat.pow_le_pow_right (by decide) hi
  rw [(bits_nat .i64 62 (by decide) wraps_i64 a b (by omega) hb2).2]
  have hq : b = 2 ^ i * (b / 2 ^ i) := by
    have := Nat.div_add_mod b (2 ^ i)
    omega
  rw [Nat.or_comm, hq, ← Nat.two_pow_add_eq_or_of_lt ha (b / 2 ^ i), Nat.add_comm]
theorem wrap64_small (n : Nat) (h : n < 2 ^ 62) : wrap64 (n : Int) = (n : Int) := IntWalk.wrap64_in _ ⟨by omega, by omega⟩
theorem num_step (t acc c : Nat) (ht : t < 4) (hacc : acc < 128 ^ t) (hc : c < 256) :
    bits .or .i64 (acc : Int) (wrap64 (wrap64 (bits .and .u8 (c : Int) 127) * 2 ^ (7 * t))) = ((acc + c % 128 * 128 ^ t : Nat) : Int) := by
  rw [low7 c hc, wrap64_small _ (by omega)]
  have e : ((c % 128 : Nat) : Int) * 2 ^ (7 * t) = ((c % 128 * 128 ^ t : Nat) : Int) := by
    rcases (by omega : t = 0 ∨ t = 1 ∨ t = 2 ∨ t = 3) with rfl | rfl | rfl | rfl <;> simp
  have hb : c % 128 * 128 ^ t < 2 ^ 62 := by
    rcases (by omega : t = 0 ∨ t = 1 ∨ t = 2 ∨ t = 3) with rfl | rfl | rfl | rfl <;> omega
  rw [e, wrap64_small _ hb]
  refine or_high (7 * t) acc _ (by omega) ?_ ?_ hb
  · rcases (by omega : t = 0 ∨ t = 1 ∨ t = 2 ∨ t = 3) with rfl | rfl | rfl | rfl <;> simpa using hacc
  · rcases (by omega : t = 0 ∨ t = 1 ∨ t = 2 ∨ t = 3) with rfl | rfl | rfl | rfl <;> omega
theorem num_step0 (c : Nat) (hc : c < 256) : bits .or .i64 0 (wrap64 (wrap64 (bits .and .u8 (c : Int) 127))) = ((0 + c % 128 * 128 ^ 0 : Nat) : Int) := by
  have := num_step 0 0 c (by omega) (by omega) hc
  simpa using this
def Halfway (s : ByteArray) (p t q acc : Nat) : Prop := q = p + t ∧ t ≤ 4 ∧ q ≤ s.size ∧ acc < 128 ^ t ∧ Lk.rd t acc (s.data.toList.drop q) = Lk.rd 0 0 (s.data.toList.drop p)
theorem Halfway.start (s : ByteArray) (p : Nat) (hp : p ≤ s.size) : Halfway s p 0 p 0 := ⟨rfl, by omega, hp, by omega, rfl⟩
theorem byte_lt (c : UInt8) : c.toNat < 256 := c.toNat_lt
theorem byte_zero {c : UInt8} (h : c.toNat = 0) : c = 0 := UInt8.toNat_inj.1 (by simpa using h)
theorem Halfway.next {s : ByteArray} {p t q acc : Nat} (h : Halfway s p t q acc) (hlt : q < s.size) (ht : t < 4) (h0 : ¬ (0 < t ∧ s[q].toNat = 0)) (hc : 127 < s[q].toNat) :
    Halfway s p (t + 1) (q + 1) (acc + s[q].toNat % 128 * 128 ^ t) := by
  obtain ⟨rfl, h1, h2, h3, h4⟩ := h
  refine ⟨by omega, by omega, by omega, ?_, ?_⟩
  · rcases (by omega : t = 0 ∨ t = 1 ∨ t = 2 ∨ t = 3) with rfl | rfl | rfl | rfl <;> omega
  · rw [← h4, drop_cons s _ hlt, Lk.rd_next _ _ _ _ (by rintro (h | ⟨h, h'⟩) <;> first | omega | exact h0 ⟨h, by rw [h']; rfl⟩) (by omega)]
theorem Halfway.short {s : ByteArray} {p t q acc : Nat} {r : Lk.Rd} (h : Halfway s p t q acc) (hr : Hid (Lk.rd 0 0 (s.data.toList.drop p) = r)) (hlt : ¬ q < s.size) : r.val = 0 ∧ r.good = false ∧ r.at p s.size = q := by
  obtain ⟨rfl, h1, h2, h3, h4⟩ := h
  have : r = .short := by rw [← uh hr, ← h4, drop_end s _ (by omega), Lk.rd_nil]
  subst this
  exact ⟨rfl, rfl, by show s.size = _; omega⟩
theorem Halfway.bad {s : ByteArray} {p t q acc : Nat} {r : Lk.Rd} (h : Halfway s p t q acc) (hr : Hid (Lk.rd 0 0 (s.data.toList.drop p) = r)) (hlt : q < s.size) (hb : t = 4 ∨ (0 < t ∧ s[q].toNat = 0)) : r.val = 0 ∧ r.good = false ∧ r.at p s.size = q := by
  obtain ⟨rfl, h1, h2, h3, h4⟩ := h
  have : r = .bad t := by
    rw [← uh hr, ← h4, drop_cons s _ hlt, Lk.rd_bad _ _ _ _ (hb.imp id fun ⟨a, b⟩ => ⟨a, byte_zero b⟩)]
  subst this
  exact ⟨rfl, rfl, rfl⟩
theorem Halfway.last {s : ByteArray} {p t q acc : Nat} {r : Lk.Rd} (h : Halfway s p t q acc) (hr : Hid (Lk.rd 0 0 (s.data.toList.drop p) = r)) (hlt : q < s.size) (ht : t < 4) (h0 : ¬ (0 < t ∧ s[q].toNat = 0)) (hc : s[q].toNat ≤ 127) :
    r.val = ((acc + s[q].toNat % 128 * 128 ^ t : Nat) : Int) ∧ r.good = true ∧ r.at p s.size = q + 1 := by
  obtain ⟨rfl, h1, h2, h3, h4⟩ := h
  have : r = .ok (acc + s[p + t].toNat % 128 * 128 ^ t) (t + 1) := by
    rw [← uh hr, ← h4, drop_cons s _ hlt, Lk.rd_last _ _ _ _ (by rintro (h | ⟨h, h'⟩) <;> first | omega | exact h0 ⟨h, by rw [h']; rfl⟩) (by omega)]
  subst this
  exact ⟨rfl, rfl, rfl⟩
theorem ret_num {r : Lk.Rd} {a : Int} {b : Bool} (h : r.val = a) (h' : r.good = b) : Ending.returned (.tuple #[.int .i64 a, .bool b]) = .returned (.tuple #[.int .i64 r.val, .bool r.good]) := by rw [h, h']
theorem extract_list (s : ByteArray) (i j : Nat) : (s.extract i j).data.toList = (s.data.toList.drop i).take (j - i) := by
  rw [ByteArray.data_extract, Array.toList_extract]
end Go.Proofs.YtbkpdapagfjmmaaGreatDoor

namespace Go.Proofs.YtbkpdapagfjmmaaGreatDoor
open Go.RowKit
theorem own : ownKnob Tryz.prog.godebug = none := by kernel_rfl
theorem Is.string {w : World} {g : Nat} {cs : List Value} {xs : List Int} (h : Is w g 5 cs) (hp : (xs.map (Value.int .u8)) <+: cs) (cap : Nat) :
    (convert 78 9 (.slice (some ⟨g, 0, none⟩) xs.length cap)).run Tryz.prog w = .ok (.string (strOfNums xs)) w := by
  refine run_convert_bytes_arg w 78 5 Tryz.underlying78 Tryz.underlying5 g 0 xs.length cap xs rfl ?_ 9 Tryz.underlying9
  intro i hi
  rw [Nat.zero_add, h.cell i]
  obtain ⟨t, rfl⟩ := hp
  rw [List.getElem?_append_left (by simpa using hi)]
  simp [hi]
theorem one_string (w : World) (x : Int) : (convert 78 9 (.slice (some ⟨w.heap.size, 0, none⟩) 1 1)).run Tryz.prog (w.alloc (.cells #[.int .u8 x] 5)) = .ok (.string ⟨#[UInt8.ofNat x.toNat]⟩) (w.alloc (.cells #[.int .u8 x] 5)) :=
  Is.string (xs := [x]) (Is.new w 5 [.int .u8 x]) (List.prefix_refl _) 1
theorem bcell {W w1 : World} (hb : Below W.heap.size W w1) : (∀ b o, b < W.heap.size → w1.cell? ⟨b, o, none⟩ = W.cell? ⟨b, o, none⟩) ∧ (∀ b o, b < W.heap.size → w1.frozen? ⟨b, o, none⟩ = W.frozen? ⟨b, o, none⟩) :=
  ⟨fun b o h => hb.cell (p := ⟨b, o, none⟩) h, fun b o h => hb.frozen (p := ⟨b, o, none⟩) h⟩
theorem ret_string {a b : ByteArray} (h : a = b) : Ending.returned (.string a) = .returned (.string b) := by rw [h]
theorem cell_string (w : World) (g : Nat) (x : Int) (h : w.cell? ⟨g, 0, none⟩ = some (.int .u8 x)) :
    (convert 78 9 (.slice (some ⟨g, 0, none⟩) 1 1)).run Tryz.prog w = .ok (.string ⟨#[UInt8.ofNat x.toNat]⟩) w := by
  refine run_convert_bytes_arg w 78 5 Tryz.underlying78 Tryz.underlying5 g 0 1 1 [x] rfl ?_ 9 Tryz.underlying9
  intro i hi
  obtain rfl : i = 0 := by omega
  simpa using h
end Go.Proofs.YtbkpdapagfjmmaaGreatDoor

namespace Go.Proofs.YtbkpdapagfjmmaaGreatDoor
open Go.RowKit
theorem info_u8 : (Tryz.prog.info? 5).map (fun i => (i.zero, i.size, i.bytes)) = some (some (.int .u8 0), 1, 1) := by kernel_rfl
def bytesV (l : List UInt8) : List Value := l.map fun c => Value.int .u8 c.toNat
theorem byte_or (k : Nat) (hk : k ≤ 268435455) : bits .or .i64 (bits .and .i64 (k : Int) 127) 128 % 256 = ((UInt8.ofNat (128 + k % 128)).toNat : Int) := by
  have h1 : bits .and .i64 (k : Int) 127 = ((k % 128 : Nat) : Int) := by
    have := bits_mask .i64 62 (by decide) wraps_i64 7 (by decide) (k : Int) (by omega) (by omega)
    simpa using this
  have h2 := or_high 7 (k % 128) 128 (by omega) (by omega) (by omega) (by omega)
  rw [h1, show (128 : Int) = ((128 : Nat) : Int) from rfl, h2]
  simp
  omega
theorem byte_small (k : Nat) (hk : k < 128) : (k : Int) = ((UInt8.ofNat k).toNat : Int) := by
  simp
  omega
theorem bytesV_snoc (ys : List UInt8) (c : UInt8) (x : Int) (h : x = (c.toNat : Int)) : bytesV ys ++ [Value.int .u8 x] = bytesV (ys ++ [c]) := by
  rw [h]; simp [bytesV]
theorem appendNumber_T (B : Nat) (v : Value) (xs : List UInt8) (n : Nat) (h : n ≤ 268435455) (w : World) (hB : B ≤ w.heap.size) (ho : w.ownsRow B 5 1 v xs.length (bytesV xs)) (hl : xs.length ≤ 2 ^ 45) :
    Calls Tryz.prog 72 #[v, .int .i64 n] w fun e w' => ∃ v', e = .returned v' ∧ w'.ownsRow B 5 1 v' (xs ++ Lk.wire n).length (bytesV (xs ++ Lk.wire n)) ∧ Below B w w' ∧ KeepsT 5 w w' := by
  obtain ⟨i, hi, hz0, hz1, hz2⟩ := info_parts info_u8
  go_enter Tryz.func72, Tryz.ntmps72
  go_wp2_with fail
  go_loopw [0, 1] (fun b m wr => ∃ (k : Nat) (ys : List UInt8), m = .int .i64 k ∧ k ≤ 268435455 ∧ Hid (ys ++ Lk.wire k = xs ++ Lk.wire n) ∧ B ≤ wr.heap.size ∧ wr.ownsRow B 5 1 b ys.length (bytesV ys) ∧ Below B w wr ∧ KeepsT 5 w wr) (fun _ m _ => (intOf m).toNat)
  case atStart => exact ⟨n, xs, rfl, h, rfl, hB, ho, Below.refl _ _, KeepsT.refl _ _⟩
  case round =>
    obtain ⟨k, ys, rfl, hk, HY, hB', hown, hbel, hkt⟩ := hrel
    have hys : ys.length ≤ 2 ^ 45 + 4 := by
      have e := congrArg List.length (uh HY)
      have := Lk.wire_len_le4 n h
      simp only [List.length_append] at e
      omega
    by_cases hlt : 127 < k
    · have hlt' : 127 < (k : Int) := by omega
      go_wp2_with (at_builtin; refine wpList_append_own _ rfl _ _ 78 rfl B 5 i _ 1 1 Tryz.underlying78 hi hz0 hz1 hz2 rfl (by decide) _ ys.length (bytesV ys) rfl (hown.alloc _) ⟨wr.heap.size, 0, none⟩ 1 1 [_] rfl rfl (cell_one_new _ _ _) ?h1 ?h63 ?hby ?hba ?_)
      case h1 => simp [Value.oneCell']
      case h63 => unfold maxLen; omega
      case hby => omega
      case hba => first | omega | (simp; omega)
      intro v' w' ho' hg' hn'
      rw [bytesV_snoc ys _ _ (byte_or k hk)] at ho'
      go_wp2_with fail
      go_roundw
      case rel =>
        refine ⟨k / 128, ys ++ [UInt8.ofNat (128 + k % 128)], by first | go_num | (simp; omega), by omega, ?_, ?_, ?_, ?_, (hkt.alloc _).grown hg' (hown.alloc _)⟩
        · rw [← uh HY, Lk.wire_big k (by omega)]; simp [Hid]
        · have := hg'.size; simp at this; omega
        · simpa using ho'
        · exact (hbel.alloc hB' _).grown hg' (by simp; omega) (fun k hk => (hown.lt k hk).1)
      case measure => simp [intOf]; omega
    · have hlt' : ¬ 127 < (k : Int) := by omega
      go_wp2_with (at_builtin; refine wpList_append_own _ rfl _ _ 78 rfl B 5 i _ 1 1 Tryz.underlying78 hi hz0 hz1 hz2 rfl (by decide) _ ys.length (bytesV ys) rfl (hown.alloc _) ⟨wr.heap.size, 0, none⟩ 1 1 [_] rfl rfl (cell_one_new _ _ _) ?h1 ?h63 ?hby ?hba ?_)
      case h1 => simp [Value.oneCell']
      case h63 => unfold maxLen; omega
      case hby => omega
      case hba => first | omega | (simp; omega)
      intro v' w' ho' hg' hn'
      have hw : xs ++ Lk.wire n = ys ++ [UInt8.ofNat k] := by rw [← uh HY, Lk.wire_small k (by omega)]
      rw [bytesV_snoc ys (UInt8.ofNat k) _ (byte_small k (by omega))] at ho'
      have HW := hide hw
      clear hw
      go_wp2_with fail
      go_ret
      refine ⟨_, rfl, ?_, ?_, (hkt.alloc _).grown hg' (hown.alloc _)⟩
      · rw [uh HW]; simpa using ho'
      · exact (hbel.alloc hB' _).grown hg' (by simp; omega) (fun k hk => (hown.lt k hk).1)
theorem strCells_bytes (s : ByteArray) : Lib.strCells s = bytesV s.data.toList := by
  simp [Lib.strCells, bytesV]
theorem nums_bytes (l : List UInt8) : (strOfNums (l.map fun c => (c.toNat : Int))) = ⟨l.toArray⟩ := by
  unfold strOfNums
  congr 2
  rw [List.map_map]
  have : ((fun n : Int => UInt8.ofNat n.toNat) ∘ fun c : UInt8 => (c.toNat : Int)) = id := by
    funext c; simp
  rw [this, List.map_id]
theorem owned_string {w : World} {B : Nat} {v : Value} {l : List UInt8} (h : w.ownsRow B 5 1 v l.length (bytesV l)) (hne : 0 < l.length) :
    (convert 78 9 v).run Tryz.prog w = .ok (.string ⟨l.toArray⟩) w := by
  rcases h.2 with ⟨_, h0⟩ | ⟨g, cap, cur, rfl, _, hg, hn, hc, hs, ht⟩
  · omega
  · have hI : Is w g 5 cur.toList := by unfold Is; simpa using hg
    have := Is.string (xs := l.map fun c => (c.toNat : Int)) hI (by
      rw [List.map_map]
      show (bytesV l) <+: _
      rw [← ht]
      exact List.take_prefix _ _) cap
    rw [nums_bytes] at this
    simpa using this
end Go.Proofs.YtbkpdapagfjmmaaGreatDoor

namespace Go.Proofs.YtbkpdapagfjmmaaGreatDoor
open Go.RowKit
theorem ended_any (b : Nat) (T : TypeId) (s : ByteArray) (p : Nat) (more : List Value) (w : World) (_hs : s.size ≤ maxLen) (hI : Is w b T (.string s :: .int .i64 p :: more)) :
    Calls Tryz.prog 153 #[.pointer (some ⟨b, 0, none⟩)] w fun e w' => e = .returned (.bool (decide (s.size ≤ p))) ∧ ∃ n, w' = w.drewN n := by
  unfold maxLen at _hs
  have c0 : w.cell? ⟨b, 0, none⟩ = some (.string s) := hI.cell 0
  have c1 : w.cell? ⟨b, 1, none⟩ = some (.int .i64 p) := hI.cell 1
  clear hI
  go_enter Tryz.func153, Tryz.ntmps153
  go_wp2
  go_quiet (fail)
  go_wp2
  go_ret
  refine ⟨ret_bool (by simp), _, rfl⟩
theorem number_any (b : Nat) (T : TypeId) (s : ByteArray) (p : Nat) (more : List Value) (w : World) (hs : s.size ≤ maxLen) (hp : p ≤ s.size) (hI : Is w b T (.string s :: .int .i64 p :: more)) :
    Calls Tryz.prog 133 #[.pointer (some ⟨b, 0, none⟩)] w fun e w' =>
      e = .returned (.tuple #[.int .i64 (Lk.rd 0 0 (s.data.toList.drop p)).val, .bool (Lk.rd 0 0 (s.data.toList.drop p)).good])
      ∧ Is w' b T (.string s :: .int .i64 ((Lk.rd 0 0 (s.data.toList.drop p)).at p s.size : Nat) :: more) ∧ Turns b w w' := by
  have HE := hide (fun q w hI => ended_any b T s q more w hs hI)
  unfold maxLen at hs
  generalize hr : Lk.rd 0 0 (s.data.toList.drop p) = r
  have HR := hide hr
  clear hr
  go_enter Tryz.func133, Tryz.ntmps133
  go_wp2_with fail
  refine wp_scope_jumps 0 (fun a' w' => ∃ (t q acc : Nat) (u6 u7 u8 u9 u10 u11 u12 u13 u14 u15 u16 u17 u18 u19 u20 u21 u22 u23 u24 u25 u26 u27 u28 u29 u30 u31 u32 u33 u34 u35 u36 u37 u38 u39 u40 u41 u42 u43 u44 u45 u46 u47 : Value), Halfway s p t q acc ∧ 1 ≤ t ∧ Is w' b T (.string s :: .int .i64 q :: more) ∧ Turns b w w' ∧
      a' = { tmps := #[.pointer (some ⟨b, 0, none⟩), undef, .int .i64 0, .bool false, .int .i64 acc, .int .i64 t, u6, u7, u8, u9, u10, u11, u12, u13, u14, u15, u16, u17, u18, u19, u20, u21, u22, u23, u24, u25, u26, u27, u28, u29, u30, u31, u32, u33, u34, u35, u36, u37, u38, u39, u40, u41, u42, u43, u44, u45, u46, u47], defers := [] })
    (fun a' _ => 4 - (intOf (a'.tmps.getD 5 undef)).toNat) rfl ?_ ?_
  · have HH := Halfway.start s p hp
    go_wp2_with fail
    go_step3
    go_wp2_with fail
    by_cases hlt : p < s.size
    · refine (uh HE _ _ hI).mono ?_
      rintro e w1 ⟨rfl, n1, rfl⟩
      have c0 : w.cell? ⟨b, 0, none⟩ = some (.string s) := hI.cell 0
      have c1 : w.cell? ⟨b, 1, none⟩ = some (.int .i64 p) := hI.cell 1
      have f1 : w.frozen? ⟨b, 1, none⟩ = false := hI.free 1
      have hd : decide (s.size ≤ p) = false := by simp; omega
      go_wp2_with fail
      go_quiet (fail)
      go_wp2_with fail
      · have h0 : s[p].toNat = 0 := by assumption
        obtain ⟨e1, e2, e3⟩ := HH.last HR hlt (by omega) (by omega) (by omega)
        simp only [Exit.jump]
        go_ret2
        rw [e3]
        refine ⟨ret_num (e1.trans ?_) e2, (hI.drewN _).set 1 _, ((Turns.refl _ _).drewN _).set 1 _⟩
        have e := num_step0 s[p].toNat (byte_lt _)
        rw [h0] at e ⊢
        exact e.symm
      · have hc : 127 < (s[p].toNat : Int) := by assumption
        go_step3
        have HN := HH.next hlt (by omega) (by omega) (by omega)
        rw [num_step0 _ (byte_lt _)]
        exact ⟨rfl, 1, _, _, _, _, _, _, _, _, _, _, _, _, _, _, _, _, _, _, _, _, _, _, _, _, _, _, _, _, _, _, _, _, _, _, _, _, _, _, _, _, _, _, _, _, HN, by omega, (hI.drewN _).set 1 _, ((Turns.refl _ _).drewN _).set 1 _, rfl⟩
      · have hc : (s[p].toNat : Int) ≤ 127 := by assumption
        obtain ⟨e1, e2, e3⟩ := HH.last HR hlt (by omega) (by omega) (by omega)
        simp only [Exit.jump]
        go_ret2
        rw [e3]
        exact ⟨ret_num (e1.trans (num_step0 s[p].toNat (byte_lt _)).symm) e2, (hI.drewN _).set 1 _, ((Turns.refl _ _).drewN _).set 1 _⟩
    · refine (uh HE _ _ hI).mono ?_
      rintro e w1 ⟨rfl, n1, rfl⟩
      have hd : decide (s.size ≤ p) = true := by simp; omega
      obtain ⟨e1, e2, e3⟩ := HH.short HR hlt
      have E3 := hide e3
      have E := hide (ret_num e1 e2)
      clear e1 e2 e3
      go_wp2_with fail
      simp only [Exit.jump]
      go_ret2
      rw [uh E3]
      exact ⟨uh E, hI.drewN _, (Turns.refl _ _).drewN _⟩
  · rintro a' w' ⟨t, q, acc, u6, u7, u8, u9, u10, u11, u12, u13, u14, u15, u16, u17, u18, u19, u20, u21, u22, u23, u24, u25, u26, u27, u28, u29, u30, u31, u32, u33, u34, u35, u36, u37, u38, u39, u40, u41, u42, u43, u44, u45, u46, u47, HH, ht1, hI', hT, rfl⟩
    have ht : t ≤ 4 := HH.2.1
    by_cases hlt : q < s.size
    · have c0 : w'.cell? ⟨b, 0, none⟩ = some (.string s) := hI'.cell 0
      have c1 : w'.cell? ⟨b, 1, none⟩ = some (.int .i64 q) := hI'.cell 1
      have f1 : w'.frozen? ⟨b, 1, none⟩ = false := hI'.free 1
      have hd : decide (s.size ≤ q) = false := by simp; omega
      by_cases ht4 : t = 4
      · obtain ⟨e1, e2, e3⟩ := HH.bad HR hlt (Or.inl ht4)
        have E3 := hide e3
        have E := hide (ret_num e1 e2)
        clear e1 e2 e3
        have hb4 : ((t : Int) == 4) = true := by simp; omega
        clear ht4
        go_wp2_with fail
        refine (uh HE _ _ hI').mono ?_
        rintro e w1 ⟨rfl, n1, rfl⟩
        go_wp2_with fail
        simp only [Exit.jump]
        go_ret2
        rw [uh E3]
        exact ⟨uh E, hI'.drewN _, hT.drewN _⟩
      · have ht3 : t < 4 := by omega
        clear ht4
        go_wp2_with fail
        refine (uh HE _ _ hI').mono ?_
        rintro e w1 ⟨rfl, n1, rfl⟩
        go_wp2_with fail
        go_quiet (fail)
        go_wp2_with fail
        · obtain ⟨e1, e2, e3⟩ := HH.bad HR hlt (Or.inr ⟨ht1, by assumption⟩)
          simp only [Exit.jump]
          go_ret2
          rw [e3]
          exact ⟨ret_num e1 e2, hI'.drewN _, hT.drewN _⟩
        · have hc : 127 < (s[q].toNat : Int) := by assumption
          go_step3
          have HN := HH.next hlt ht3 (by omega) (by omega)
          rw [num_step t acc _ ht3 HH.2.2.2.1 (byte_lt _)]
          refine ⟨rfl, ⟨t + 1, _, _, _, _, _, _, _, _, _, _, _, _, _, _, _, _, _, _, _, _, _, _, _, _, _, _, _, _, _, _, _, _, _, _, _, _, _, _, _, _, _, _, _, _, HN, by omega, (hI'.drewN _).set 1 _, (hT.drewN _).set 1 _, rfl⟩, ?_⟩
          simp [intOf]
          omega
        · have hc : (s[q].toNat : Int) ≤ 127 := by assumption
          obtain ⟨e1, e2, e3⟩ := HH.last HR hlt ht3 (by omega) (by omega)
          simp only [Exit.jump]
          go_ret2
          rw [e3]
          exact ⟨ret_num (e1.trans (num_step t acc _ ht3 HH.2.2.2.1 (byte_lt _)).symm) e2, (hI'.drewN _).set 1 _, (hT.drewN _).set 1 _⟩
    · have hd : decide (s.size ≤ q) = true := by simp; omega
      obtain ⟨e1, e2, e3⟩ := HH.short HR hlt
      have E3 := hide e3
      have E := hide (ret_num e1 e2)
      clear e1 e2 e3
      go_wp2_with fail
      refine (uh HE _ _ hI').mono ?_
      rintro e w1 ⟨rfl, n1, rfl⟩
      go_wp2_with fail
      simp only [Exit.jump]
      go_ret2
      rw [uh E3]
      exact ⟨uh E, hI'.drewN _, hT.drewN _⟩
end Go.Proofs.YtbkpdapagfjmmaaGreatDoor
