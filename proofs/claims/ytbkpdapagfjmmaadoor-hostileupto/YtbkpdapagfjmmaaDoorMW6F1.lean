import Derived.Test.YtbkpdapagfjmmaaDoorMPGA5
import Derived.Test.YtbkpdapagfjmmaaDoorMT1M1
import Derived.Lib.AppendStr
import Derived.Test.YtbkpdapagfjmmaaDoorProg
import Derived.WalkMore
import Derived.ScopeJumps
/-
  Walks: a number is appended.
-/
namespace Go.Proofs.YtbkpdapagfjmmaaDoor
open Go.RowKit

theorem info_u8 : (Tryd.prog.info? 5).map (fun i => (i.zero, i.size, i.bytes)) = some (some (.int .u8 0), 1, 1) := by kernel_rfl

def bytesV (l : List UInt8) : List Value := l.map fun c => Value.int .u8 c.toNat

theorem byte_or (k : Nat) (hk : k ≤ 268435455) : bits .or .i64 (bits .and .i64 (k : Int) 127) 128 % 256 = ((UInt8.ofNat (128 + k % 128)).toNat : Int) := by
  have h1 : bits .and .i64 (k : Int) 127 = ((k % 128 : Nat) : Int) := by
    have := bits_mask .i64 62 (by decide) wraps_i64 7 (by decide) (k : Int) (by omega) (by omega)
    simpa using this
  have h2 := or_high 7 (k % 128) 128 (by omega) (by omega) (by omega) (by omega)
  rw [h1, show (128 : Int) = ((128 : Nat) : Int) from rfl, h2]
  simp
  omega

theorem byte_small (k : Nat) (hk : k < 128) : (k : Int) = ((UInt8.ofNat k).toNat : Int) := by
  simp
  omega

theorem bytesV_snoc (ys : List UInt8) (c : UInt8) (x : Int) (h : x = (c.toNat : Int)) : bytesV ys ++ [Value.int .u8 x] = bytesV (ys ++ [c]) := by
  rw [h]; simp [bytesV]

set_option maxHeartbeats 400000 in
set_option maxRecDepth 100000 in
theorem appendNumber_T (B : Nat) (v : Value) (xs : List UInt8) (n : Nat) (h : n ≤ 268435455) (w : World) (hB : B ≤ w.heap.size) (ho : w.ownsRow B 5 1 v xs.length (bytesV xs)) (hl : xs.length ≤ 2 ^ 45) :
    Calls Tryd.prog 54 #[v, .int .i64 n] w fun e w' => ∃ v', e = .returned v' ∧ w'.ownsRow B 5 1 v' (xs ++ Lk.wire n).length (bytesV (xs ++ Lk.wire n)) ∧ Below B w w' ∧ KeepsT 5 w w' := by
  obtain ⟨i, hi, hz0, hz1, hz2⟩ := info_parts info_u8
  go_enter Tryd.func54, Tryd.ntmps54
  go_wp2_with fail
  go_loopw [0, 1] (fun b m wr => ∃ (k : Nat) (ys : List UInt8), m = .int .i64 k ∧ k ≤ 268435455 ∧ Hid (ys ++ Lk.wire k = xs ++ Lk.wire n) ∧ B ≤ wr.heap.size ∧ wr.ownsRow B 5 1 b ys.length (bytesV ys) ∧ Below B w wr ∧ KeepsT 5 w wr) (fun _ m _ => (intOf m).toNat)
  case atStart => exact ⟨n, xs, rfl, h, rfl, hB, ho, Below.refl _ _, KeepsT.refl _ _⟩
  case round =>
    obtain ⟨k, ys, rfl, hk, HY, hB', hown, hbel, hkt⟩ := hrel
    have hys : ys.length ≤ 2 ^ 45 + 4 := by
      have e := congrArg List.length (unhide HY)
      have := Lk.wire_len_le4 n h
      simp only [List.length_append] at e
      omega
    by_cases hlt : 127 < k
    · have hlt' : 127 < (k : Int) := by omega
      go_wp2_with (at_builtin; refine wpList_append_own _ rfl _ _ 88 rfl B 5 i _ 1 1 Tryd.underlying88 hi hz0 hz1 hz2 rfl (by decide) _ ys.length (bytesV ys) rfl (hown.alloc _) ⟨wr.heap.size, 0, none⟩ 1 1 [_] rfl rfl (cell_one_new _ _ _) ?h1 ?h63 ?hby ?hba ?_)
      case h1 => simp [Value.oneCell']
      case h63 => unfold maxLen; omega
      case hby => omega
      case hba => first | omega | (simp; omega)
      intro v' w' ho' hg' hn'
      rw [bytesV_snoc ys _ _ (byte_or k hk)] at ho'
      go_wp2_with fail
      go_roundw
      case rel =>
        refine ⟨k / 128, ys ++ [UInt8.ofNat (128 + k % 128)], by first | go_num | (simp; omega), by omega, ?_, ?_, ?_, ?_, (hkt.alloc _).grown hg' (hown.alloc _)⟩
        · rw [← unhide HY, Lk.wire_big k (by omega)]; simp [Hid]
        · have := hg'.size; simp at this; omega
        · simpa using ho'
        · exact (hbel.alloc hB' _).grown hg' (by simp; omega) (fun k hk => (hown.lt k hk).1)
      case measure => simp [intOf]; omega
    · have hlt' : ¬ 127 < (k : Int) := by omega
      go_wp2_with (at_builtin; refine wpList_append_own _ rfl _ _ 88 rfl B 5 i _ 1 1 Tryd.underlying88 hi hz0 hz1 hz2 rfl (by decide) _ ys.length (bytesV ys) rfl (hown.alloc _) ⟨wr.heap.size, 0, none⟩ 1 1 [_] rfl rfl (cell_one_new _ _ _) ?h1 ?h63 ?hby ?hba ?_)
      case h1 => simp [Value.oneCell']
      case h63 => unfold maxLen; omega
      case hby => omega
      case hba => first | omega | (simp; omega)
      intro v' w' ho' hg' hn'
      have hw : xs ++ Lk.wire n = ys ++ [UInt8.ofNat k] := by rw [← unhide HY, Lk.wire_small k (by omega)]
      rw [bytesV_snoc ys (UInt8.ofNat k) _ (byte_small k (by omega))] at ho'
      have HW := hide hw
      clear hw
      go_wp2_with fail
      go_ret
      refine ⟨_, rfl, ?_, ?_, (hkt.alloc _).grown hg' (hown.alloc _)⟩
      · rw [unhide HW]; simpa using ho'
      · exact (hbel.alloc hB' _).grown hg' (by simp; omega) (fun k hk => (hown.lt k hk).1)

theorem appendNumber_any (B : Nat) (v : Value) (xs : List UInt8) (n : Nat) (h : n ≤ 268435455) (w : World) (hB : B ≤ w.heap.size) (ho : w.ownsRow B 5 1 v xs.length (bytesV xs)) (hl : xs.length ≤ 2 ^ 45) :
    Calls Tryd.prog 54 #[v, .int .i64 n] w fun e w' => ∃ v', e = .returned v' ∧ w'.ownsRow B 5 1 v' (xs ++ Lk.wire n).length (bytesV (xs ++ Lk.wire n)) ∧ Below B w w' :=
  (appendNumber_T B v xs n h w hB ho hl).mono fun _ _ ⟨v', h1, h2, h3, _⟩ => ⟨v', h1, h2, h3⟩

theorem strCells_bytes (s : ByteArray) : Lib.strCells s = bytesV s.data.toList := by
  simp [Lib.strCells, bytesV]

theorem nums_bytes (l : List UInt8) : (strOfNums (l.map fun c => (c.toNat : Int))) = ⟨l.toArray⟩ := by
  unfold strOfNums
  congr 2
  rw [List.map_map]
  have : ((fun n : Int => UInt8.ofNat n.toNat) ∘ fun c : UInt8 => (c.toNat : Int)) = id := by
    funext c; simp
  rw [this, List.map_id]

theorem owned_string {w : World} {B : Nat} {v : Value} {l : List UInt8} (h : w.ownsRow B 5 1 v l.length (bytesV l)) (hne : 0 < l.length) :
    (convert 88 9 v).run Tryd.prog w = .ok (.string ⟨l.toArray⟩) w := by
  rcases h.2 with ⟨_, h0⟩ | ⟨g, cap, cur, rfl, _, hg, hn, hc, hs, ht⟩
  · omega
  · have hI : Is w g 5 cur.toList := by unfold Is; simpa using hg
    have := Is.string (xs := l.map fun c => (c.toNat : Int)) hI (by
      rw [List.map_map]
      show (bytesV l) <+: _
      rw [← ht]
      exact List.take_prefix _ _) cap
    rw [nums_bytes] at this
    simpa using this

end Go.Proofs.YtbkpdapagfjmmaaDoor

/-
  Walks: the cursor: has it ended; a number.
-/
namespace Go.Proofs.YtbkpdapagfjmmaaDoor
open Go.RowKit

theorem ended_any (b : Nat) (T : TypeId) (s : ByteArray) (p : Nat) (more : List Value) (w : World) (_hs : s.size ≤ maxLen) (hI : Is w b T (.string s :: .int .i64 p :: more)) :
    Calls Tryd.prog 36 #[.pointer (some ⟨b, 0, none⟩)] w fun e w' => e = .returned (.bool (decide (s.size ≤ p))) ∧ ∃ n, w' = w.drewN n := by
  unfold maxLen at _hs
  have c0 : w.cell? ⟨b, 0, none⟩ = some (.string s) := hI.cell 0
  have c1 : w.cell? ⟨b, 1, none⟩ = some (.int .i64 p) := hI.cell 1
  clear hI
  go_enter Tryd.func36, Tryd.ntmps36
  go_wp2
  go_quiet (fail)
  go_wp2
  go_ret
  refine ⟨ret_bool (by simp), _, rfl⟩

set_option maxHeartbeats 1000000 in
set_option maxRecDepth 100000 in
theorem number_any (b : Nat) (T : TypeId) (s : ByteArray) (p : Nat) (more : List Value) (w : World) (hs : s.size ≤ maxLen) (hp : p ≤ s.size) (hI : Is w b T (.string s :: .int .i64 p :: more)) :
    Calls Tryd.prog 59 #[.pointer (some ⟨b, 0, none⟩)] w fun e w' =>
      e = .returned (.tuple #[.int .i64 (Lk.rd 0 0 (s.data.toList.drop p)).val, .bool (Lk.rd 0 0 (s.data.toList.drop p)).good])
      ∧ Is w' b T (.string s :: .int .i64 ((Lk.rd 0 0 (s.data.toList.drop p)).at p s.size : Nat) :: more) ∧ Turns b w w' := by
  have HE := hide (fun q w hI => ended_any b T s q more w hs hI)
  unfold maxLen at hs
  generalize hr : Lk.rd 0 0 (s.data.toList.drop p) = r
  have HR := hide hr
  clear hr
  go_enter Tryd.func59, Tryd.ntmps59
  go_wp2_with fail
  refine wp_scope_jumps 0 (fun a' w' => ∃ (t q acc : Nat) (u6 u7 u8 u9 u10 u11 u12 u13 u14 u15 u16 u17 u18 u19 u20 u21 u22 u23 u24 u25 u26 u27 u28 u29 u30 u31 u32 u33 u34 u35 u36 u37 u38 u39 u40 u41 u42 u43 u44 u45 u46 u47 : Value), Halfway s p t q acc ∧ 1 ≤ t ∧ Is w' b T (.string s :: .int .i64 q :: more) ∧ Turns b w w' ∧
      a' = { tmps := #[.pointer (some ⟨b, 0, none⟩), undef, .int .i64 0, .bool false, .int .i64 acc, .int .i64 t, u6, u7, u8, u9, u10, u11, u12, u13, u14, u15, u16, u17, u18, u19, u20, u21, u22, u23, u24, u25, u26, u27, u28, u29, u30, u31, u32, u33, u34, u35, u36, u37, u38, u39, u40, u41, u42, u43, u44, u45, u46, u47], defers := [] })
    (fun a' _ => 4 - (intOf (a'.tmps.getD 5 undef)).toNat) rfl ?_ ?_
  · have HH := Halfway.start s p hp
    go_wp2_with fail
    go_step3
    go_wp2_with fail
    by_cases hlt : p < s.size
    · refine (unhide HE _ _ hI).mono ?_
      rintro e w1 ⟨rfl, n1, rfl⟩
      have c0 : w.cell? ⟨b, 0, none⟩ = some (.string s) := hI.cell 0
      have c1 : w.cell? ⟨b, 1, none⟩ = some (.int .i64 p) := hI.cell 1
      have f1 : w.frozen? ⟨b, 1, none⟩ = false := hI.free 1
      have hd : decide (s.size ≤ p) = false := by simp; omega
      go_wp2_with fail
      go_quiet (fail)
      go_wp2_with fail
      · have h0 : s[p].toNat = 0 := by assumption
        obtain ⟨e1, e2, e3⟩ := HH.last HR hlt (by omega) (by omega) (by omega)
        simp only [Exit.jump]
        go_ret2
        rw [e3]
        refine ⟨ret_num (e1.trans ?_) e2, (hI.drewN _).set 1 _, ((Turns.refl _ _).drewN _).set 1 _⟩
        have e := num_step0 s[p].toNat (byte_lt _)
        rw [h0] at e ⊢
        exact e.symm
      · have hc : 127 < (s[p].toNat : Int) := by assumption
        go_step3
        have HN := HH.next hlt (by omega) (by omega) (by omega)
        rw [num_step0 _ (byte_lt _)]
        exact ⟨rfl, 1, _, _, _, _, _, _, _, _, _, _, _, _, _, _, _, _, _, _, _, _, _, _, _, _, _, _, _, _, _, _, _, _, _, _, _, _, _, _, _, _, _, _, _, _, HN, by omega, (hI.drewN _).set 1 _, ((Turns.refl _ _).drewN _).set 1 _, rfl⟩
      · have hc : (s[p].toNat : Int) ≤ 127 := by assumption
        obtain ⟨e1, e2, e3⟩ := HH.last HR hlt (by omega) (by omega) (by omega)
        simp only [Exit.jump]
        go_ret2
        rw [e3]
        exact ⟨ret_num (e1.trans (num_step0 s[p].toNat (byte_lt _)).symm) e2, (hI.drewN _).set 1 _, ((Turns.refl _ _).drewN _).set 1 _⟩
    · refine (unhide HE _ _ hI).mono ?_
      rintro e w1 ⟨rfl, n1, rfl⟩
      have hd : decide (s.size ≤ p) = true := by simp; omega
      obtain ⟨e1, e2, e3⟩ := HH.short HR hlt
      have E3 := hide e3
      have E := hide (ret_num e1 e2)
      clear e1 e2 e3
      go_wp2_with fail
      simp only [Exit.jump]
      go_ret2
      rw [unhide E3]
      exact ⟨unhide E, hI.drewN _, (Turns.refl _ _).drewN _⟩
  · rintro a' w' ⟨t, q, acc, u6, u7, u8, u9, u10, u11, u12, u13, u14, u15, u16, u17, u18, u19, u20, u21, u22, u23, u24, u25, u26, u27, u28, u29, u30, u31, u32, u33, u34, u35, u36, u37, u38, u39, u40, u41, u42, u43, u44, u45, u46, u47, HH, ht1, hI', hT, rfl⟩
    have ht : t ≤ 4 := HH.2.1
    by_cases hlt : q < s.size
    · have c0 : w'.cell? ⟨b, 0, none⟩ = some (.string s) := hI'.cell 0
      have c1 : w'.cell? ⟨b, 1, none⟩ = some (.int .i64 q) := hI'.cell 1
      have f1 : w'.frozen? ⟨b, 1, none⟩ = false := hI'.free 1
      have hd : decide (s.size ≤ q) = false := by simp; omega
      by_cases ht4 : t = 4
      · obtain ⟨e1, e2, e3⟩ := HH.bad HR hlt (Or.inl ht4)
        have E3 := hide e3
        have E := hide (ret_num e1 e2)
        clear e1 e2 e3
        have hb4 : ((t : Int) == 4) = true := by simp; omega
        clear ht4
        go_wp2_with fail
        refine (unhide HE _ _ hI').mono ?_
        rintro e w1 ⟨rfl, n1, rfl⟩
        go_wp2_with fail
        simp only [Exit.jump]
        go_ret2
        rw [unhide E3]
        exact ⟨unhide E, hI'.drewN _, hT.drewN _⟩
      · have ht3 : t < 4 := by omega
        clear ht4
        go_wp2_with fail
        refine (unhide HE _ _ hI').mono ?_
        rintro e w1 ⟨rfl, n1, rfl⟩
        go_wp2_with fail
        go_quiet (fail)
        go_wp2_with fail
        · obtain ⟨e1, e2, e3⟩ := HH.bad HR hlt (Or.inr ⟨ht1, by assumption⟩)
          simp only [Exit.jump]
          go_ret2
          rw [e3]
          exact ⟨ret_num e1 e2, hI'.drewN _, hT.drewN _⟩
        · have hc : 127 < (s[q].toNat : Int) := by assumption
          go_step3
          have HN := HH.next hlt ht3 (by omega) (by omega)
          rw [num_step t acc _ ht3 HH.2.2.2.1 (byte_lt _)]
          refine ⟨rfl, ⟨t + 1, _, _, _, _, _, _, _, _, _, _, _, _, _, _, _, _, _, _, _, _, _, _, _, _, _, _, _, _, _, _, _, _, _, _, _, _, _, _, _, _, _, _, _, _, HN, by omega, (hI'.drewN _).set 1 _, (hT.drewN _).set 1 _, rfl⟩, ?_⟩
          simp [intOf]
          omega
        · have hc : (s[q].toNat : Int) ≤ 127 := by assumption
          obtain ⟨e1, e2, e3⟩ := HH.last HR hlt ht3 (by omega) (by omega)
          simp only [Exit.jump]
          go_ret2
          rw [e3]
          exact ⟨ret_num (e1.trans (num_step t acc _ ht3 HH.2.2.2.1 (byte_lt _)).symm) e2, (hI'.drewN _).set 1 _, (hT.drewN _).set 1 _⟩
    · have hd : decide (s.size ≤ q) = true := by simp; omega
      obtain ⟨e1, e2, e3⟩ := HH.short HR hlt
      have E3 := hide e3
      have E := hide (ret_num e1 e2)
      clear e1 e2 e3
      go_wp2_with fail
      refine (unhide HE _ _ hI').mono ?_
      rintro e w1 ⟨rfl, n1, rfl⟩
      go_wp2_with fail
      simp only [Exit.jump]
      go_ret2
      rw [unhide E3]
      exact ⟨unhide E, hI'.drewN _, hT.drewN _⟩

end Go.Proofs.YtbkpdapagfjmmaaDoor

/-
  Walks: a frame is appended; frames whose payload is a number.
-/
namespace Go.Proofs.YtbkpdapagfjmmaaDoor
open Go.RowKit

theorem frame_cells (k st : Nat) (s : ByteArray) (xs : List UInt8) : bytesV ((xs ++ [UInt8.ofNat k]) ++ (Lk.wire st ++ Lk.wire s.size)) ++ Lib.strCells s = bytesV (xs ++ Lk.packed k st s.data.toList) := by
  rw [strCells_bytes, bytesV, bytesV, bytesV, ← List.map_append, Lk.packed, Int.toNat_natCast, Int.toNat_natCast, ← size_list]
  simp
theorem frame_len (k st : Nat) (s : ByteArray) (xs : List UInt8) : xs.length + 1 + ((Lk.wire st).length + (Lk.wire s.size).length) + s.size = (xs ++ Lk.packed k st s.data.toList).length := by
  rw [Lk.packed, Int.toNat_natCast, Int.toNat_natCast, ← size_list]
  simp only [List.length_append, List.length_cons, ← size_list]
  omega
theorem own_len' {w : World} {B : Nat} {e : TypeId} {size n m : Nat} {v : Value} {xs : List Value} (hn : m = n) (h : w.ownsRow B e size v n xs) : w.ownsRow B e size v m xs := by rw [hn]; exact h
theorem byte_kind (k : Nat) (hk : k ≤ 7) : (IntKind.u8.wrap (k : Int)) = ((UInt8.ofNat k).toNat : Int) := by
  rw [← byte_small k (by omega)]
  obtain rfl | rfl | rfl | rfl | rfl | rfl | rfl | rfl : k = 0 ∨ k = 1 ∨ k = 2 ∨ k = 3 ∨ k = 4 ∨ k = 5 ∨ k = 6 ∨ k = 7 := by omega
  all_goals decide

set_option maxHeartbeats 1000000 in
set_option maxRecDepth 100000 in
theorem appendFrame_any (B : Nat) (v : Value) (xs : List UInt8) (k st : Nat) (s : ByteArray) (w : World) (hB : B ≤ w.heap.size) (ho : w.ownsRow B 5 1 v xs.length (bytesV xs)) (hl : xs.length ≤ 2 ^ 44) (hk : k ≤ 7) (hst : st ≤ 268435455) (hs : s.size ≤ 64) :
    Calls Tryd.prog 46 #[v, .agg #[.int .i64 (k : Int), .int .i64 (st : Int), .string s]] w fun e w' =>
      ∃ v', e = .returned v' ∧ w'.ownsRow B 5 1 v' (xs ++ Lk.packed k st s.data.toList).length (bytesV (xs ++ Lk.packed k st s.data.toList)) ∧ Below B w w' ∧ KeepsT 5 w w' := by
  obtain ⟨i, hi, hz0, hz1, hz2⟩ := info_parts info_u8
  have hI0 := Is.new w 114 [.int .i64 (k : Int), .int .i64 (st : Int), .string s]
  have hb0 := (Below.refl B w).alloc hB (.cells #[.int .i64 (k : Int), .int .i64 (st : Int), .string s] 114)
  have hk0 := (KeepsT.refl 5 w).alloc (.cells #[.int .i64 (k : Int), .int .i64 (st : Int), .string s] 114)
  have ho0 := ho.alloc (.cells #[.int .i64 (k : Int), .int .i64 (st : Int), .string s] 114)
  have hw4 := Lk.wire_len_le4 st hst
  have hw5 := Lk.wire_len_le4 s.size (by omega)
  have HB0 := hide hb0
  have HK0 := hide hk0
  have HI0 := hide hI0
  clear hb0 hk0 hI0
  have hkk : (k : Int) ≤ 7 := by omega
  go_enter Tryd.func46, Tryd.ntmps46
  go_wp2_with (at_builtin; refine wpList_append_own _ rfl _ _ 88 rfl B 5 i _ 1 1 Tryd.underlying88 hi hz0 hz1 hz2 rfl (by decide) _ xs.length (bytesV xs) rfl (ho0.alloc _) ⟨w.heap.size + 1, 0, none⟩ 1 1 [.int .u8 (k : Int)] rfl rfl ?hnews ?h1 ?h63 ?hby ?hba ?_)
  case hnews => exact one_new_at _ _ _ _ (by simp)
  case h1 => simp [Value.oneCell']
  case h63 => unfold maxLen; omega
  case hby => omega
  case hba => first | omega | (simp; omega)
  intro v1 w1 ho1 hg1 _
  rw [bytesV_snoc xs (UInt8.ofNat k) _ (by first | exact byte_kind k hk | exact byte_small k (by omega))] at ho1
  have hoa := ho0.alloc (.cells #[.int .u8 (k : Int)] 5)
  have hIa := (unhide HI0).alloc (.cells #[.int .u8 (k : Int)] 5)
  have hI1 := hIa.grown hg1 (own_ne hoa hIa (Nat.ne_of_beq_eq_false rfl))
  have hb1 : Below B w w1 := (((unhide HB0).alloc (by simp; omega) _)).grown hg1 (by simp; omega) (fun j hj => (ho.lt j hj).1)
  have hk1 : KeepsT 5 w w1 := ((unhide HK0).alloc (.cells #[.int .u8 (k : Int)] 5)).grown hg1 hoa
  have hs1 : w.heap.size < w1.heap.size := hI1.lt
  have c1 := hI1.cell 1
  have c2 := hI1.cell 2
  simp only [List.getElem?_cons_zero, List.getElem?_cons_succ] at c1 c2
  have hl1 : xs.length + 1 = (xs ++ [UInt8.ofNat k]).length := by simp
  rw [hl1] at ho1
  clear hg1 ho0 hoa hIa HB0 HK0 HI0 ho
  generalize hys : xs ++ [UInt8.ofNat k] = ys at ho1
  have hyl : ys.length = xs.length + 1 := by rw [← hys]; simp
  have HYS := hide hys
  clear hys hl1
  go_wp2_with fail
  refine (appendNumber_T B v1 ys st hst _ (by omega) ho1 (by omega)).mono ?_
  rintro e w2 ⟨v2, rfl, ho2, hb2, hk2⟩
  have hI2 := hk2 _ _ _ (Nat.ne_of_beq_eq_false rfl) hI1
  have hbw2 := hb1.trans hb2
  have hkw2 := hk1.trans hk2
  have hs2 : w.heap.size < w2.heap.size := hI2.lt
  have c2 := hI2.cell 2
  simp only [List.getElem?_cons_zero, List.getElem?_cons_succ] at c2
  clear hI1 hb1 hk1 hb2 hk2 ho1 c1
  go_wp2_with fail
  refine (appendNumber_T B v2 _ s.size (by omega) _ (by omega) ho2 (by simp; omega)).mono ?_
  rintro e w3 ⟨v3, rfl, ho3, hb3, hk3⟩
  have hI3 := hk3 _ _ _ (Nat.ne_of_beq_eq_false rfl) hI2
  have hbw3 := hbw2.trans hb3
  have hkw3 := hkw2.trans hk3
  have hs3 : w.heap.size < w3.heap.size := hI3.lt
  have c2 := hI3.cell 2
  simp only [List.getElem?_cons_zero, List.getElem?_cons_succ] at c2
  clear hI2 hbw2 hkw2 hb3 hk3 ho2
  go_wp2_with (at_builtin; refine Lib.wpList_append_own_string _ rfl _ _ 88 9 rfl B 5 i Tryd.underlying88 Tryd.underlying9 hi hz0 hz1 hz2 _ _ _ rfl ho3 s rfl ?h63 ?hby ?hba ?_)
  case h63 => unfold maxLen; simp; omega
  case hby => simp; omega
  case hba => omega
  intro v4 w4 ho4 hg4 _
  rw [← unhide HYS, frame_cells] at ho4
  have ho4 := own_len' (m := (xs ++ Lk.packed k st s.data.toList).length) (by first | exact (frame_len k st s xs).symm | (simp only [List.length_append, List.length_cons, List.length_nil]; have := frame_len k st s xs; simp only [List.length_append] at this; omega)) ho4
  have hbw4 : Below B w w4 := hbw3.grown hg4 (by omega) (fun j hj => (ho3.lt j hj).1)
  have hkw4 : KeepsT 5 w w4 := hkw3.grown hg4 ho3
  clear ho3 hg4 hbw3 hkw3 hI3
  go_wp2_with fail
  go_ret
  exact ⟨_, rfl, ho4, hbw4, hkw4⟩
end Go.Proofs.YtbkpdapagfjmmaaDoor
